/- Walk of law06's UcdPairs: what is made of a pair comes apart to it. -/
import Derived.Test.YtpdcmfnemfopjaaUcdWakes
namespace Go.Proofs.Ytpdcmfnemfopjaa
open Go.RowKit

theorem fndS_true {p : Rg → Bool} : ∀ {l : List Rg}, (fndS p l).2 = true → (fndS p l).1 ∈ l ∧ p (fndS p l).1 = true
  | [], h => by simp [fndS] at h
  | r :: l, h => by
    by_cases hp : p r = true
    · rw [fndS, if_pos hp]
      exact ⟨List.mem_cons_self .., hp⟩
    · rw [fndS, if_neg hp] at h ⊢
      have := fndS_true h
      exact ⟨List.mem_cons_of_mem _ this.1, this.2⟩
theorem fndS_false {p : Rg → Bool} : ∀ {l : List Rg}, (fndS p l).2 = false → (fndS p l).1 = noRg
  | [], _ => rfl
  | r :: l, h => by
    by_cases hp : p r = true
    · rw [fndS, if_pos hp] at h
      simp at h
    · rw [fndS, if_neg hp] at h ⊢
      exact fndS_false h
theorem pair_facts {a b : Int} (h : (pairS a b).2 = true) : canonS (pairS a b).1 = [a, b] ∧ classS (pairS a b).1 = 0 ∧ classS a = 0 ∧ scalarB (pairS a b).1 = true ∧ (b != 0) = true ∧ mapS tabCompat (pairS a b).1 = [] := by
  obtain ⟨hm, hp⟩ := fndS_true (p := fun r => r.t == a && r.v == b) (l := tabPair) h
  have hf := List.all_eq_true.1 f_pairs _ hm
  simp only [Bool.and_eq_true, beq_iff_eq] at hf hp
  obtain ⟨h1, h2, h3, h4, h5, h6⟩ := hf
  rw [hp.1, hp.2] at h1
  rw [hp.1] at h3
  rw [hp.2] at h5
  exact ⟨h1, h2, h3, h4, h5, h6⟩

set_option maxHeartbeats 4000000 in
theorem walkPairs6 (a b : Int) (w : World) :
    Calls Try.prog 4 #[.int .i64 a, .int .i64 b] w fun e w' => e = .returned (.bool true) ∧ Below w.heap.size w w' := by
  have HP := hid (fun w => ucdPair a b w)
  have hfa := fun h => pair_facts (a := a) (b := b) h
  have hno : (pairS a b).2 = false → (pairS a b).1 = 0 := fun h => by
    have := fndS_false (p := fun r => r.t == a && r.v == b) (l := tabPair) h
    show (fndS _ _).1.f = 0
    rw [this]
    rfl
  obtain ⟨R, hR⟩ : ∃ R, R = pairS a b := ⟨_, rfl⟩
  rw [← hR] at HP hfa hno
  clear hR
  obtain ⟨c, ok⟩ := R
  simp only at HP hfa hno
  cases ok with
  | false =>
    have hc : c = 0 := hno rfl
    subst hc
    clear hfa hno
    go_enter Try.func4, Try.ntmps4
    go_wp2_with (first
      | (go_at_call 9; refine (HP.out _).mono ?_; rintro e w1 ⟨rfl, hb1⟩; have HB1 := hid hb1; clear hb1)
      | (go_at_call 30; refine (lawWakes6 _).mono ?_; rintro e w2 ⟨rfl, hb2⟩; have HB2 := hid (HB1.out.trans (hb2.mono HB1.out.size)); clear hb2))
    go_ret
    exact ⟨rfl, HB2.out⟩
  | true =>
    obtain ⟨h1, h2, h3, h4, h5, h6⟩ := hfa rfl
    have HC := hid (fun w => ucdCanon c w)
    rw [h1] at HC
    have HK := hid (fun w => ucdClass c w)
    rw [h2] at HK
    have HA := hid (fun w => ucdClass a w)
    rw [h3] at HA
    have HS := hid (fun w => ucdScalar c w)
    rw [h4] at HS
    have HM := hid (fun w => ucdCompat c w)
    rw [h6] at HM
    clear h1 h2 h3 h4 h6 hfa hno
    go_enter Try.func4, Try.ntmps4
    go_wp2_with (first
      | (go_at_call 9; refine (HP.out _).mono ?_; rintro e w1 ⟨rfl, hb1⟩; have HB1 := hid hb1; clear hb1)
      | (go_at_call 24; refine (HC.out _).mono ?_; rintro e w2 ⟨v2, rfl, ho2, hb2⟩; have HO2 := hid ho2; have HB2 := hid (HB1.out.trans (hb2.mono HB1.out.size)); clear ho2 hb2)
      | (go_at_call 23; refine (keepInts v2 _ [a, b] [a, b] _ (HO2.out.below (by (repeat (first | exact Below.refl _ _ | exact below_drewN _ | refine Below.drew ?_ | refine Below.alloc ?_ (by simp) _ | refine Below.setCell ?_ (by simp) _ | refine below_drewN' ?_ _)))) (lit_sl (by first | simp | rfl) rfl rfl (by simp))).mono ?_; rw [eqL_self]; rintro e w3 ⟨rfl, n3, rfl⟩; have HB3 := hid (below_drewN' (HB2.out.alloc HB2.out.size (.cells #[.int .i64 a, .int .i64 b] 3)) n3))
      | (have _u := HB4; clear _u; go_at_call 13; refine (HA.out _).mono ?_; rintro e w5 ⟨rfl, hb5⟩; have HB5 := hid (HB4.out.trans (hb5.mono HB4.out.size)); clear hb5)
      | (go_at_call 13; refine (HK.out _).mono ?_; rintro e w4 ⟨rfl, hb4⟩; have HB4 := hid (HB3.out.trans (hb4.mono HB3.out.size)); clear hb4)
      | (go_at_call 11; refine (HS.out _).mono ?_; rintro e w6 ⟨rfl, rfl⟩)
      | (go_at_call 26; refine (HM.out _).mono ?_; rintro e w7 ⟨v7, rfl, ho7, hb7⟩; obtain ⟨a7, c7, rfl⟩ := ho7.form; have HB7 := hid (HB5.out.trans (hb7.mono HB5.out.size)); clear ho7 hb7)
      | (go_at_call 30; refine (lawWakes6 _).mono ?_; rintro e w8 ⟨rfl, hb8⟩; have HB8 := hid (HB7.out.trans (hb8.mono HB7.out.size)); clear hb8))
    go_ret
    exact ⟨rfl, HB8.out⟩
end Go.Proofs.Ytpdcmfnemfopjaa
