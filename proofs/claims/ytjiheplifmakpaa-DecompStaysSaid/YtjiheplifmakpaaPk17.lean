/- Several texts in one: LawParts8, Dec8g, Walks8, OpenB, OpenL, Keep. -/
import Derived.Test.YtjiheplifmakpaaPk14
import Derived.Test.YtjiheplifmakpaaPk15
import Derived.Test.YtjiheplifmakpaaPk10
import Derived.Test.YtjiheplifmakpaaPk16
import Derived.Test.YtjiheplifmakpaaPk1
import Derived.ProofKit
import Derived.OpenShut
import Derived.ShutString
import Derived.ChangeOld
import Derived.Deep.Fields
import Derived.Test.YtjiheplifmakpaaPk12
import Derived.Test.YtjiheplifmakpaaPk2
/-! LawParts8 -/
namespace Go.Proofs.Ytjiheplifmakpaa
open Go.RowKit

set_option maxRecDepth 1000000 in
theorem rows_off : (tabCanon.all fun r => decide (r.f < 44032 ∨ 55203 < r.f)) = true ∧ (tabCompat.all fun m => decide (m.f < 44032 ∨ 55203 < m.f)) = true := by decide +kernel
theorem canon_nosplit {c : Int} (h : canonS c ≠ []) : splitS c = [] := by
  obtain ⟨r, hr, rfl⟩ := canon_key h
  have := List.all_eq_true.1 rows_off.1 r hr
  simp only [decide_eq_true_eq] at this
  exact splitS_out (by omega)
theorem compat_nosplit {c : Int} (h : mapS tabCompat c ≠ []) : splitS c = [] := by
  obtain ⟨m, hm, rfl⟩ := map_key h
  have := List.all_eq_true.1 rows_off.2 m hm
  simp only [decide_eq_true_eq] at this
  exact splitS_out (by omega)
theorem i64_of8 {x : Int} (h : inI x = true) : I64n x := by
  unfold inI at h
  have h2 := of_decide_eq_true h
  exact h2
theorem step_inI {k : Bool} {c : Int} (hi : inI c = true) (hs : splitS c = []) : (stepS k c).all inI = true := by
  rw [List.all_eq_true]
  intro x hx
  have := (deep_step (deep_all (k := k) hi) hs).2 x hx
  rw [deepB, Bool.and_eq_true] at this
  exact this.1
theorem compat_step {c : Int} (hca : canonS c = []) : stepS true c = mapS tabCompat c := by
  unfold stepS
  rw [hca]
  rfl
theorem compat_one {c : Int} (hi : inI c = true) (hca : canonS c = []) (hne : mapS tabCompat c ≠ []) : oneS true c = allS true (mapS tabCompat c) := by
  rw [← compat_step hca]
  exact one_parts hi (compat_nosplit hne) (by rw [compat_step hca]; exact hne)
theorem compat_inI {c : Int} (hi : inI c = true) (hca : canonS c = []) (hne : mapS tabCompat c ≠ []) : (mapS tabCompat c).all inI = true := by
  rw [← compat_step hca]
  exact step_inI hi (compat_nosplit hne)
theorem compat_len {c : Int} (hca : canonS c = []) : (mapS tabCompat c).length ≤ 3 := by
  rw [← compat_step hca]
  exact stepS_len true c
theorem split_inI (c : Int) : (splitS c).all inI = true := by
  rw [List.all_eq_true]
  intro x hx
  obtain ⟨h0, h1⟩ := split_letters x hx
  exact decide_eq_true ⟨by omega, by omega⟩
theorem split_len (c : Int) : (splitS c).length ≤ 3 := by
  unfold splitS partsN
  split
  · split <;> simp
  · simp

set_option maxHeartbeats 8000000 in
set_option maxRecDepth 8000 in
theorem walkParts8 (HO : DOneOk) (HA : DAllOk) (HP : SplitOk) (va vb : Value) (a b : List Int) (c : Int) (k : Bool) (w : World) (h1 : Sl .i64 w va a) (h2 : Sl .i64 w vb b) (ha : a.all inI = true) (hb : b.all inI = true) (hc : inI c = true) :
    Calls Try.prog 5 #[va, vb, .int .i64 c, .bool k] w fun e w' => e = .returned (.bool true) ∧ Below w.heap.size w w' := by
  have HS1 := hid h1
  have HS2 := hid h2
  have m1 := h1.len
  have m2 := h2.len
  obtain ⟨a1, c1, hv1⟩ := h1.form
  obtain ⟨a2, c2, hv2⟩ := h2.form
  obtain ⟨n1, hn1⟩ : ∃ n, n = a.length := ⟨_, rfl⟩
  obtain ⟨n2, hn2⟩ : ∃ n, n = b.length := ⟨_, rfl⟩
  rw [← hn1] at hv1 m1
  rw [← hn2] at hv2 m2
  subst hv1 hv2
  have HN1 := hid hn1
  have HN2 := hid hn2
  have HW := hid (fun w => lawWakes8 HO HA w)
  clear hn1 hn2 h1 h2
  by_cases hl1 : n1 ≤ 300
  · by_cases hl2 : n2 ≤ 300
    · have G1 := hid (fun w h => HA k (.slice a1 n1 c1) a w h ha (by have := HN1.out; omega))
      have G2 := hid (fun w h => HA k (.slice a2 n2 c2) b w h hb (by have := HN2.out; omega))
      have G3 := hid (fun v w h => HA k v (a ++ b) w h (by rw [List.all_append, ha, hb]; rfl) (by rw [List.length_append]; have := HN1.out; have := HN2.out; omega))
      rw [allS_app] at G3
      have G4 := hid (fun w h => keepTwinInts (.slice a1 n1 c1) a w h (by have := HN1.out; omega))
      have L1 := hid (show (allS k a).length ≤ 1000000 from allS_small (by have := HN1.out; omega))
      have L2 := hid (show (allS k b).length ≤ 1000000 from allS_small (by have := HN2.out; omega))
      have G5 := hid (fun w => HO k c w hc)
      have G6 := hid (fun w => ucdCanon c w)
      have G7 := hid (fun w => ucdCompat c w)
      have G8 := hid (fun w => HP c w (i64_of8 hc))
      have HAA := hid (fun v s w h h2 h3 => HA k v s w h h2 h3)
      generalize allS k a = X at G1 G3 L1
      generalize allS k b = Y at G2 G3 L2
      clear HO HA HP ha hb
      by_cases hca : canonS c = []
      · rw [hca] at G6
        by_cases hco : k = true ∧ mapS tabCompat c ≠ []
        · obtain ⟨rfl, hne⟩ := hco
          obtain ⟨l, hl⟩ : ∃ l, l = mapS tabCompat c := ⟨_, rfl⟩
          have hz : oneS true c = allS true l := by rw [hl]; exact compat_one hc hca hne
          have G9 := hid (fun v w h => HAA.out v l w h (by rw [hl]; exact compat_inI hc hca hne) (by rw [hl]; have := compat_len hca; omega))
          rw [← hl] at G7 hne
          rw [hz] at G5
          generalize allS true l = Z at G5 G9
          have hlp : 0 < l.length := List.length_pos_iff.2 hne
          obtain ⟨m, hm⟩ : ∃ m, m = l.length := ⟨_, rfl⟩
          rw [← hm] at hlp
          have HLM := hid hm
          have hm0 : ((m : Int) == 0) = false := beq_eq_false_iff_ne.2 (by omega)
          clear hl hz hm hne
          go_enter Try.func5, Try.ntmps5
          go_wp2_with (first
            | (go_at_call 14; refine (HW.out _).mono ?_; rintro e w13 ⟨rfl, hb13⟩; have HB13 := hid (HB12.out.trans (hb13.mono HB12.out.size)); clear hb13)
            | (have _u := HB11; clear _u; go_at_call 9; refine (keepInts v10 v11 Z Z _ HOO.out HO11.out.sl).mono ?_; rw [eqL_self]; rintro e w12 ⟨rfl, n12, hw12⟩; have HB12 := hid (show Below w.heap.size w w12 from by rw [hw12]; exact below_drewN' HB11.out n12); clear hw12)
            | (have _u := HB10; clear _u; go_at_call 12; with_reducible refine (G9.out _ _ HL10.out).mono ?_; rintro e w11 ⟨v11, rfl, ho11, hb11⟩; have HO11 := hid ho11; have HOO := hid (HO10.out.below hb11); have HB11 := hid (HB10.out.trans (hb11.mono HB10.out.size)); clear ho11 hb11)
            | (have _u := HB9; clear _u; go_at_call 10; refine (G5.out _).mono ?_; rintro e w10 ⟨v10, rfl, ho10, hb10⟩; have HO10 := hid ho10; have HL10 := hid (HO9.out.below hb10); have HB10 := hid (HB9.out.trans (hb10.mono HB9.out.size)); clear ho10 hb10)
            | (have _u := HB8; clear _u; go_at_call 16; refine (G7.out _).mono ?_; rintro e w9 ⟨v9, rfl, ho9, hb9⟩; obtain ⟨a9', c9', hv9⟩ := ho9.form; rw [← HLM.out] at hv9; subst hv9; have HO9 := hid ho9; have HB9 := hid (HB8.out.trans (hb9.mono HB8.out.size)); clear ho9 hb9)
            | (have _u := HB7; clear _u; go_at_call 15; refine (G6.out _).mono ?_; rintro e w8 ⟨v8, rfl, ho8, hb8⟩; obtain ⟨a8', c8', rfl⟩ := ho8.form; have HB8 := hid (HB7.out.trans (hb8.mono HB7.out.size)); clear ho8 hb8)
            | (have _u := HB6; clear _u; go_at_call 9; refine (keepInts v6 v3 (X ++ Y) (X ++ Y) _ HO6.out.sl HO36.out.sl).mono ?_; rw [eqL_self]; rintro e w7 ⟨rfl, n7, hw7⟩; have HB7 := hid (show Below w.heap.size w w7 from by rw [hw7]; exact below_drewN' HB6.out n7); clear hw7)
            | (have _u := HB5; clear _u; go_at_call 12; with_reducible refine (G3.out v5 _ HO5.out.sl).mono ?_; rintro e w6 ⟨v6, rfl, ho6, hb6⟩; have HO6 := hid ho6; have HO36 := hid ((HO3.out.below HP5.out).below hb6); have HB6 := hid (HB5.out.trans (hb6.mono HB5.out.size)); clear ho6 hb6)
            | (have _u := HB4; clear _u; at_builtin; go_loud (refine wpList_app _ rfl _ _ 22 rfl .i64 w3.heap.size 3 8 Try.underlying22 Try.infoI64 _ a b rfl HO4.out _ rfl (HS2.out.below HB4.out) (by have := HN1.out; have := HN2.out; unfold maxLen; omega) (by have := HN1.out; have := HN2.out; omega) HP4.out.size ?_); intro v5 w5 ho5 hg5 hb5 hn5; have HO5 := hid ho5; have HP5 := hid (HP4.out.trans hb5); have HB5 := hid (HB3.out.trans (HP5.out.mono HB3.out.size)); clear hg5 hn5 ho5 hb5)
            | (go_at_call 8; refine (G4.out _ (HS1.out.below HB3.out)).mono ?_; rintro e w4 ⟨v4, rfl, ho4, hb4⟩; have HO4 := hid ho4; have HP4 := hid hb4; have HB4 := hid (HB3.out.trans (hb4.mono HB3.out.size)); clear ho4 hb4)
            | (have _u := HB2; clear _u; at_builtin; go_loud (refine wpList_app _ rfl _ _ 22 rfl .i64 w.heap.size 3 8 Try.underlying22 Try.infoI64 _ X Y rfl HO12.out _ rfl HO2.out.sl (by have := L1.out; have := L2.out; unfold maxLen; omega) (by have := L1.out; have := L2.out; omega) HB2.out.size ?_); intro v3 w3 ho3 hg3 hb3 hn3; have HO3 := hid ho3; have HB3 := hid (HB2.out.trans hb3); clear hg3 hn3 ho3 hb3)
            | (have _u := HB1; clear _u; go_at_call 12; with_reducible refine (G2.out _ (HS2.out.below HB1.out)).mono ?_; rintro e w2 ⟨v2, rfl, ho2, hb2⟩; have HO2 := hid ho2; have HO12 := hid (HO1.out.below hb2); have HB2 := hid (HB1.out.trans (hb2.mono HB1.out.size)); clear ho2 hb2)
            | (go_at_call 12; with_reducible refine (G1.out _ HS1.out).mono ?_; rintro e w1 ⟨v1, rfl, ho1, hb1⟩; have HO1 := hid ho1; have HB1 := hid hb1; clear ho1 hb1))
          go_ret
          exact ⟨rfl, HB13.out⟩
        · have hst : stepS k c = [] := by
            unfold stepS
            rw [hca]
            cases k with
            | false => rfl
            | true =>
              by_cases hq : mapS tabCompat c = []
              · exact hq
              · exact absurd ⟨rfl, hq⟩ hco
          by_cases hsp : splitS c = []
          · rw [hsp] at G8
            have hz : oneS k c = [c] := oneS_of_plain ⟨hsp, hst⟩
            rw [hz] at G5
            cases k with
            | false =>
              go_enter Try.func5, Try.ntmps5
              go_wp2_with (first
                | (go_at_call 14; refine (HW.out _).mono ?_; rintro e w12 ⟨rfl, hb12⟩; have HB12 := hid (HB11.out.trans (hb12.mono HB11.out.size)); clear hb12)
                | (have _u := HB10; clear _u; go_at_call 9; refine (keepInts v10 _ [c] [c] _ (HO10.out.below (by (repeat (first | exact Below.refl _ _ | exact below_drewN _ | refine Below.drew ?_ | refine Below.alloc ?_ (by simp) _ | refine Below.setCell ?_ (by simp) _ | refine below_drewN' ?_ _)))) (lit_sl (by first | simp | rfl) rfl rfl (by simp))).mono ?_; rw [eqL_self]; rintro e w11 ⟨rfl, n11, hw11⟩; have HB11 := hid (show Below w.heap.size w w11 from by rw [hw11]; exact below_drewN' (HB10.out.alloc HB10.out.size _) n11); clear hw11)
                | (have _u := HB9; clear _u; go_at_call 10; refine (G5.out _).mono ?_; rintro e w10 ⟨v10, rfl, ho10, hb10⟩; have HO10 := hid ho10; have HB10 := hid (HB9.out.trans (hb10.mono HB9.out.size)); clear ho10 hb10)
                | (have _u := HB8; clear _u; go_at_call 17; refine (G8.out _).mono ?_; rintro e w9 ⟨v9, rfl, ho9, hb9⟩; obtain ⟨a9', c9', rfl⟩ := ho9.form; have HB9 := hid (HB8.out.trans (hb9.mono HB8.out.size)); clear ho9 hb9)
                | (have _u := HB7; clear _u; go_at_call 15; refine (G6.out _).mono ?_; rintro e w8 ⟨v8, rfl, ho8, hb8⟩; obtain ⟨a8', c8', rfl⟩ := ho8.form; have HB8 := hid (HB7.out.trans (hb8.mono HB7.out.size)); clear ho8 hb8)
                | (have _u := HB6; clear _u; go_at_call 9; refine (keepInts v6 v3 (X ++ Y) (X ++ Y) _ HO6.out.sl HO36.out.sl).mono ?_; rw [eqL_self]; rintro e w7 ⟨rfl, n7, hw7⟩; have HB7 := hid (show Below w.heap.size w w7 from by rw [hw7]; exact below_drewN' HB6.out n7); clear hw7)
                | (have _u := HB5; clear _u; go_at_call 12; with_reducible refine (G3.out v5 _ HO5.out.sl).mono ?_; rintro e w6 ⟨v6, rfl, ho6, hb6⟩; have HO6 := hid ho6; have HO36 := hid ((HO3.out.below HP5.out).below hb6); have HB6 := hid (HB5.out.trans (hb6.mono HB5.out.size)); clear ho6 hb6)
                | (have _u := HB4; clear _u; at_builtin; go_loud (refine wpList_app _ rfl _ _ 22 rfl .i64 w3.heap.size 3 8 Try.underlying22 Try.infoI64 _ a b rfl HO4.out _ rfl (HS2.out.below HB4.out) (by have := HN1.out; have := HN2.out; unfold maxLen; omega) (by have := HN1.out; have := HN2.out; omega) HP4.out.size ?_); intro v5 w5 ho5 hg5 hb5 hn5; have HO5 := hid ho5; have HP5 := hid (HP4.out.trans hb5); have HB5 := hid (HB3.out.trans (HP5.out.mono HB3.out.size)); clear hg5 hn5 ho5 hb5)
                | (go_at_call 8; refine (G4.out _ (HS1.out.below HB3.out)).mono ?_; rintro e w4 ⟨v4, rfl, ho4, hb4⟩; have HO4 := hid ho4; have HP4 := hid hb4; have HB4 := hid (HB3.out.trans (hb4.mono HB3.out.size)); clear ho4 hb4)
                | (have _u := HB2; clear _u; at_builtin; go_loud (refine wpList_app _ rfl _ _ 22 rfl .i64 w.heap.size 3 8 Try.underlying22 Try.infoI64 _ X Y rfl HO12.out _ rfl HO2.out.sl (by have := L1.out; have := L2.out; unfold maxLen; omega) (by have := L1.out; have := L2.out; omega) HB2.out.size ?_); intro v3 w3 ho3 hg3 hb3 hn3; have HO3 := hid ho3; have HB3 := hid (HB2.out.trans hb3); clear hg3 hn3 ho3 hb3)
                | (have _u := HB1; clear _u; go_at_call 12; with_reducible refine (G2.out _ (HS2.out.below HB1.out)).mono ?_; rintro e w2 ⟨v2, rfl, ho2, hb2⟩; have HO2 := hid ho2; have HO12 := hid (HO1.out.below hb2); have HB2 := hid (HB1.out.trans (hb2.mono HB1.out.size)); clear ho2 hb2)
                | (go_at_call 12; with_reducible refine (G1.out _ HS1.out).mono ?_; rintro e w1 ⟨v1, rfl, ho1, hb1⟩; have HO1 := hid ho1; have HB1 := hid hb1; clear ho1 hb1))
              go_ret
              exact ⟨rfl, HB12.out⟩
            | true =>
              have hq : mapS tabCompat c = [] := Classical.byContradiction fun hq => hco ⟨rfl, hq⟩
              rw [hq] at G7
              go_enter Try.func5, Try.ntmps5
              go_wp2_with (first
                | (go_at_call 14; refine (HW.out _).mono ?_; rintro e w13 ⟨rfl, hb13⟩; have HB13 := hid (HB12.out.trans (hb13.mono HB12.out.size)); clear hb13)
                | (have _u := HB11; clear _u; go_at_call 9; refine (keepInts v11 _ [c] [c] _ (HO11.out.below (by (repeat (first | exact Below.refl _ _ | exact below_drewN _ | refine Below.drew ?_ | refine Below.alloc ?_ (by simp) _ | refine Below.setCell ?_ (by simp) _ | refine below_drewN' ?_ _)))) (lit_sl (by first | simp | rfl) rfl rfl (by simp))).mono ?_; rw [eqL_self]; rintro e w12 ⟨rfl, n12, hw12⟩; have HB12 := hid (show Below w.heap.size w w12 from by rw [hw12]; exact below_drewN' (HB11.out.alloc HB11.out.size _) n12); clear hw12)
                | (have _u := HB10; clear _u; go_at_call 10; refine (G5.out _).mono ?_; rintro e w11 ⟨v11, rfl, ho11, hb11⟩; have HO11 := hid ho11; have HB11 := hid (HB10.out.trans (hb11.mono HB10.out.size)); clear ho11 hb11)
                | (have _u := HB9; clear _u; go_at_call 17; refine (G8.out _).mono ?_; rintro e w10 ⟨v10, rfl, ho10, hb10⟩; obtain ⟨a10', c10', rfl⟩ := ho10.form; have HB10 := hid (HB9.out.trans (hb10.mono HB9.out.size)); clear ho10 hb10)
                | (have _u := HB8; clear _u; go_at_call 16; refine (G7.out _).mono ?_; rintro e w9 ⟨v9, rfl, ho9, hb9⟩; obtain ⟨a9', c9', rfl⟩ := ho9.form; have HB9 := hid (HB8.out.trans (hb9.mono HB8.out.size)); clear ho9 hb9)
                | (have _u := HB7; clear _u; go_at_call 15; refine (G6.out _).mono ?_; rintro e w8 ⟨v8, rfl, ho8, hb8⟩; obtain ⟨a8', c8', rfl⟩ := ho8.form; have HB8 := hid (HB7.out.trans (hb8.mono HB7.out.size)); clear ho8 hb8)
                | (have _u := HB6; clear _u; go_at_call 9; refine (keepInts v6 v3 (X ++ Y) (X ++ Y) _ HO6.out.sl HO36.out.sl).mono ?_; rw [eqL_self]; rintro e w7 ⟨rfl, n7, hw7⟩; have HB7 := hid (show Below w.heap.size w w7 from by rw [hw7]; exact below_drewN' HB6.out n7); clear hw7)
                | (have _u := HB5; clear _u; go_at_call 12; with_reducible refine (G3.out v5 _ HO5.out.sl).mono ?_; rintro e w6 ⟨v6, rfl, ho6, hb6⟩; have HO6 := hid ho6; have HO36 := hid ((HO3.out.below HP5.out).below hb6); have HB6 := hid (HB5.out.trans (hb6.mono HB5.out.size)); clear ho6 hb6)
                | (have _u := HB4; clear _u; at_builtin; go_loud (refine wpList_app _ rfl _ _ 22 rfl .i64 w3.heap.size 3 8 Try.underlying22 Try.infoI64 _ a b rfl HO4.out _ rfl (HS2.out.below HB4.out) (by have := HN1.out; have := HN2.out; unfold maxLen; omega) (by have := HN1.out; have := HN2.out; omega) HP4.out.size ?_); intro v5 w5 ho5 hg5 hb5 hn5; have HO5 := hid ho5; have HP5 := hid (HP4.out.trans hb5); have HB5 := hid (HB3.out.trans (HP5.out.mono HB3.out.size)); clear hg5 hn5 ho5 hb5)
                | (go_at_call 8; refine (G4.out _ (HS1.out.below HB3.out)).mono ?_; rintro e w4 ⟨v4, rfl, ho4, hb4⟩; have HO4 := hid ho4; have HP4 := hid hb4; have HB4 := hid (HB3.out.trans (hb4.mono HB3.out.size)); clear ho4 hb4)
                | (have _u := HB2; clear _u; at_builtin; go_loud (refine wpList_app _ rfl _ _ 22 rfl .i64 w.heap.size 3 8 Try.underlying22 Try.infoI64 _ X Y rfl HO12.out _ rfl HO2.out.sl (by have := L1.out; have := L2.out; unfold maxLen; omega) (by have := L1.out; have := L2.out; omega) HB2.out.size ?_); intro v3 w3 ho3 hg3 hb3 hn3; have HO3 := hid ho3; have HB3 := hid (HB2.out.trans hb3); clear hg3 hn3 ho3 hb3)
                | (have _u := HB1; clear _u; go_at_call 12; with_reducible refine (G2.out _ (HS2.out.below HB1.out)).mono ?_; rintro e w2 ⟨v2, rfl, ho2, hb2⟩; have HO2 := hid ho2; have HO12 := hid (HO1.out.below hb2); have HB2 := hid (HB1.out.trans (hb2.mono HB1.out.size)); clear ho2 hb2)
                | (go_at_call 12; with_reducible refine (G1.out _ HS1.out).mono ?_; rintro e w1 ⟨v1, rfl, ho1, hb1⟩; have HO1 := hid ho1; have HB1 := hid hb1; clear ho1 hb1))
              go_ret
              exact ⟨rfl, HB13.out⟩
          · cases k with
            | false =>
              obtain ⟨l, hl⟩ : ∃ l, l = splitS c := ⟨_, rfl⟩
              have hz : oneS false c = allS false l := by rw [hl]; rw [allS_plain (k := false) fun x hx => letter_plain false (split_letters x hx).1 (split_letters x hx).2]; exact one_split hsp 3
              have G9 := hid (fun v w h => HAA.out v l w h (by rw [hl]; exact split_inI c) (by rw [hl]; have := split_len c; omega))
              rw [← hl] at G8 hsp
              rw [hz] at G5
              generalize allS false l = Z at G5 G9
              have hlp : 0 < l.length := List.length_pos_iff.2 hsp
              obtain ⟨m, hm⟩ : ∃ m, m = l.length := ⟨_, rfl⟩
              rw [← hm] at hlp
              have HLM := hid hm
              have hm0 : ((m : Int) == 0) = false := beq_eq_false_iff_ne.2 (by omega)
              clear hl hz hm hsp
              go_enter Try.func5, Try.ntmps5
              go_wp2_with (first
                | (go_at_call 14; refine (HW.out _).mono ?_; rintro e w13 ⟨rfl, hb13⟩; have HB13 := hid (HB12.out.trans (hb13.mono HB12.out.size)); clear hb13)
                | (have _u := HB11; clear _u; go_at_call 9; refine (keepInts v10 v11 Z Z _ HOO.out HO11.out.sl).mono ?_; rw [eqL_self]; rintro e w12 ⟨rfl, n12, hw12⟩; have HB12 := hid (show Below w.heap.size w w12 from by rw [hw12]; exact below_drewN' HB11.out n12); clear hw12)
                | (have _u := HB10; clear _u; go_at_call 12; with_reducible refine (G9.out _ _ HL10.out).mono ?_; rintro e w11 ⟨v11, rfl, ho11, hb11⟩; have HO11 := hid ho11; have HOO := hid (HO10.out.below hb11); have HB11 := hid (HB10.out.trans (hb11.mono HB10.out.size)); clear ho11 hb11)
                | (have _u := HB9; clear _u; go_at_call 10; refine (G5.out _).mono ?_; rintro e w10 ⟨v10, rfl, ho10, hb10⟩; have HO10 := hid ho10; have HL10 := hid (HO9.out.below hb10); have HB10 := hid (HB9.out.trans (hb10.mono HB9.out.size)); clear ho10 hb10)
                | (have _u := HB8; clear _u; go_at_call 17; refine (G8.out _).mono ?_; rintro e w9 ⟨v9, rfl, ho9, hb9⟩; obtain ⟨a9', c9', hv9⟩ := ho9.form; rw [← HLM.out] at hv9; subst hv9; have HO9 := hid ho9; have HB9 := hid (HB8.out.trans (hb9.mono HB8.out.size)); clear ho9 hb9)
                | (have _u := HB7; clear _u; go_at_call 15; refine (G6.out _).mono ?_; rintro e w8 ⟨v8, rfl, ho8, hb8⟩; obtain ⟨a8', c8', rfl⟩ := ho8.form; have HB8 := hid (HB7.out.trans (hb8.mono HB7.out.size)); clear ho8 hb8)
                | (have _u := HB6; clear _u; go_at_call 9; refine (keepInts v6 v3 (X ++ Y) (X ++ Y) _ HO6.out.sl HO36.out.sl).mono ?_; rw [eqL_self]; rintro e w7 ⟨rfl, n7, hw7⟩; have HB7 := hid (show Below w.heap.size w w7 from by rw [hw7]; exact below_drewN' HB6.out n7); clear hw7)
                | (have _u := HB5; clear _u; go_at_call 12; with_reducible refine (G3.out v5 _ HO5.out.sl).mono ?_; rintro e w6 ⟨v6, rfl, ho6, hb6⟩; have HO6 := hid ho6; have HO36 := hid ((HO3.out.below HP5.out).below hb6); have HB6 := hid (HB5.out.trans (hb6.mono HB5.out.size)); clear ho6 hb6)
                | (have _u := HB4; clear _u; at_builtin; go_loud (refine wpList_app _ rfl _ _ 22 rfl .i64 w3.heap.size 3 8 Try.underlying22 Try.infoI64 _ a b rfl HO4.out _ rfl (HS2.out.below HB4.out) (by have := HN1.out; have := HN2.out; unfold maxLen; omega) (by have := HN1.out; have := HN2.out; omega) HP4.out.size ?_); intro v5 w5 ho5 hg5 hb5 hn5; have HO5 := hid ho5; have HP5 := hid (HP4.out.trans hb5); have HB5 := hid (HB3.out.trans (HP5.out.mono HB3.out.size)); clear hg5 hn5 ho5 hb5)
                | (go_at_call 8; refine (G4.out _ (HS1.out.below HB3.out)).mono ?_; rintro e w4 ⟨v4, rfl, ho4, hb4⟩; have HO4 := hid ho4; have HP4 := hid hb4; have HB4 := hid (HB3.out.trans (hb4.mono HB3.out.size)); clear ho4 hb4)
                | (have _u := HB2; clear _u; at_builtin; go_loud (refine wpList_app _ rfl _ _ 22 rfl .i64 w.heap.size 3 8 Try.underlying22 Try.infoI64 _ X Y rfl HO12.out _ rfl HO2.out.sl (by have := L1.out; have := L2.out; unfold maxLen; omega) (by have := L1.out; have := L2.out; omega) HB2.out.size ?_); intro v3 w3 ho3 hg3 hb3 hn3; have HO3 := hid ho3; have HB3 := hid (HB2.out.trans hb3); clear hg3 hn3 ho3 hb3)
                | (have _u := HB1; clear _u; go_at_call 12; with_reducible refine (G2.out _ (HS2.out.below HB1.out)).mono ?_; rintro e w2 ⟨v2, rfl, ho2, hb2⟩; have HO2 := hid ho2; have HO12 := hid (HO1.out.below hb2); have HB2 := hid (HB1.out.trans (hb2.mono HB1.out.size)); clear ho2 hb2)
                | (go_at_call 12; with_reducible refine (G1.out _ HS1.out).mono ?_; rintro e w1 ⟨v1, rfl, ho1, hb1⟩; have HO1 := hid ho1; have HB1 := hid hb1; clear ho1 hb1))
              go_ret
              exact ⟨rfl, HB13.out⟩
            | true =>
              have hq : mapS tabCompat c = [] := Classical.byContradiction fun hq => hco ⟨rfl, hq⟩
              rw [hq] at G7
              obtain ⟨l, hl⟩ : ∃ l, l = splitS c := ⟨_, rfl⟩
              have hz : oneS true c = allS true l := by rw [hl]; rw [allS_plain (k := true) fun x hx => letter_plain true (split_letters x hx).1 (split_letters x hx).2]; exact one_split hsp 3
              have G9 := hid (fun v w h => HAA.out v l w h (by rw [hl]; exact split_inI c) (by rw [hl]; have := split_len c; omega))
              rw [← hl] at G8 hsp
              rw [hz] at G5
              generalize allS true l = Z at G5 G9
              have hlp : 0 < l.length := List.length_pos_iff.2 hsp
              obtain ⟨m, hm⟩ : ∃ m, m = l.length := ⟨_, rfl⟩
              rw [← hm] at hlp
              have HLM := hid hm
              have hm0 : ((m : Int) == 0) = false := beq_eq_false_iff_ne.2 (by omega)
              clear hl hz hm hsp
              go_enter Try.func5, Try.ntmps5
              go_wp2_with (first
                | (go_at_call 14; refine (HW.out _).mono ?_; rintro e w14 ⟨rfl, hb14⟩; have HB14 := hid (HB13.out.trans (hb14.mono HB13.out.size)); clear hb14)
                | (have _u := HB12; clear _u; go_at_call 9; refine (keepInts v11 v12 Z Z _ HOO.out HO12.out.sl).mono ?_; rw [eqL_self]; rintro e w13 ⟨rfl, n13, hw13⟩; have HB13 := hid (show Below w.heap.size w w13 from by rw [hw13]; exact below_drewN' HB12.out n13); clear hw13)
                | (have _u := HB11; clear _u; go_at_call 12; with_reducible refine (G9.out _ _ HL11.out).mono ?_; rintro e w12 ⟨v12, rfl, ho12, hb12⟩; have HO12 := hid ho12; have HOO := hid (HO11.out.below hb12); have HB12 := hid (HB11.out.trans (hb12.mono HB11.out.size)); clear ho12 hb12)
                | (have _u := HB10; clear _u; go_at_call 10; refine (G5.out _).mono ?_; rintro e w11 ⟨v11, rfl, ho11, hb11⟩; have HO11 := hid ho11; have HL11 := hid (HO10.out.below hb11); have HB11 := hid (HB10.out.trans (hb11.mono HB10.out.size)); clear ho11 hb11)
                | (have _u := HB9; clear _u; go_at_call 17; refine (G8.out _).mono ?_; rintro e w10 ⟨v10, rfl, ho10, hb10⟩; obtain ⟨a10', c10', hv10⟩ := ho10.form; rw [← HLM.out] at hv10; subst hv10; have HO10 := hid ho10; have HB10 := hid (HB9.out.trans (hb10.mono HB9.out.size)); clear ho10 hb10)
                | (have _u := HB8; clear _u; go_at_call 16; refine (G7.out _).mono ?_; rintro e w9 ⟨v9, rfl, ho9, hb9⟩; obtain ⟨a9', c9', rfl⟩ := ho9.form; have HB9 := hid (HB8.out.trans (hb9.mono HB8.out.size)); clear ho9 hb9)
                | (have _u := HB7; clear _u; go_at_call 15; refine (G6.out _).mono ?_; rintro e w8 ⟨v8, rfl, ho8, hb8⟩; obtain ⟨a8', c8', rfl⟩ := ho8.form; have HB8 := hid (HB7.out.trans (hb8.mono HB7.out.size)); clear ho8 hb8)
                | (have _u := HB6; clear _u; go_at_call 9; refine (keepInts v6 v3 (X ++ Y) (X ++ Y) _ HO6.out.sl HO36.out.sl).mono ?_; rw [eqL_self]; rintro e w7 ⟨rfl, n7, hw7⟩; have HB7 := hid (show Below w.heap.size w w7 from by rw [hw7]; exact below_drewN' HB6.out n7); clear hw7)
                | (have _u := HB5; clear _u; go_at_call 12; with_reducible refine (G3.out v5 _ HO5.out.sl).mono ?_; rintro e w6 ⟨v6, rfl, ho6, hb6⟩; have HO6 := hid ho6; have HO36 := hid ((HO3.out.below HP5.out).below hb6); have HB6 := hid (HB5.out.trans (hb6.mono HB5.out.size)); clear ho6 hb6)
                | (have _u := HB4; clear _u; at_builtin; go_loud (refine wpList_app _ rfl _ _ 22 rfl .i64 w3.heap.size 3 8 Try.underlying22 Try.infoI64 _ a b rfl HO4.out _ rfl (HS2.out.below HB4.out) (by have := HN1.out; have := HN2.out; unfold maxLen; omega) (by have := HN1.out; have := HN2.out; omega) HP4.out.size ?_); intro v5 w5 ho5 hg5 hb5 hn5; have HO5 := hid ho5; have HP5 := hid (HP4.out.trans hb5); have HB5 := hid (HB3.out.trans (HP5.out.mono HB3.out.size)); clear hg5 hn5 ho5 hb5)
                | (go_at_call 8; refine (G4.out _ (HS1.out.below HB3.out)).mono ?_; rintro e w4 ⟨v4, rfl, ho4, hb4⟩; have HO4 := hid ho4; have HP4 := hid hb4; have HB4 := hid (HB3.out.trans (hb4.mono HB3.out.size)); clear ho4 hb4)
                | (have _u := HB2; clear _u; at_builtin; go_loud (refine wpList_app _ rfl _ _ 22 rfl .i64 w.heap.size 3 8 Try.underlying22 Try.infoI64 _ X Y rfl HO12.out _ rfl HO2.out.sl (by have := L1.out; have := L2.out; unfold maxLen; omega) (by have := L1.out; have := L2.out; omega) HB2.out.size ?_); intro v3 w3 ho3 hg3 hb3 hn3; have HO3 := hid ho3; have HB3 := hid (HB2.out.trans hb3); clear hg3 hn3 ho3 hb3)
                | (have _u := HB1; clear _u; go_at_call 12; with_reducible refine (G2.out _ (HS2.out.below HB1.out)).mono ?_; rintro e w2 ⟨v2, rfl, ho2, hb2⟩; have HO2 := hid ho2; have HO12 := hid (HO1.out.below hb2); have HB2 := hid (HB1.out.trans (hb2.mono HB1.out.size)); clear ho2 hb2)
                | (go_at_call 12; with_reducible refine (G1.out _ HS1.out).mono ?_; rintro e w1 ⟨v1, rfl, ho1, hb1⟩; have HO1 := hid ho1; have HB1 := hid hb1; clear ho1 hb1))
              go_ret
              exact ⟨rfl, HB14.out⟩
      · obtain ⟨l, hl⟩ : ∃ l, l = canonS c := ⟨_, rfl⟩
        have hz : oneS k c = allS k l := by rw [hl]; rw [← step_canon (k := k) hca]; exact one_parts hc (canon_nosplit hca) (by rw [step_canon hca]; exact hca)
        have G9 := hid (fun v w h => HAA.out v l w h (by rw [hl]; rw [← step_canon (k := k) hca]; exact step_inI hc (canon_nosplit hca)) (by rw [hl]; have := stepS_len k c; rw [step_canon hca] at this; omega))
        rw [← hl] at G6 hca
        rw [hz] at G5
        generalize allS k l = Z at G5 G9
        have hlp : 0 < l.length := List.length_pos_iff.2 hca
        obtain ⟨m, hm⟩ : ∃ m, m = l.length := ⟨_, rfl⟩
        rw [← hm] at hlp
        have HLM := hid hm
        have hm0 : ((m : Int) == 0) = false := beq_eq_false_iff_ne.2 (by omega)
        clear hl hz hm hca
        go_enter Try.func5, Try.ntmps5
        go_wp2_with (first
          | (go_at_call 14; refine (HW.out _).mono ?_; rintro e w12 ⟨rfl, hb12⟩; have HB12 := hid (HB11.out.trans (hb12.mono HB11.out.size)); clear hb12)
          | (have _u := HB10; clear _u; go_at_call 9; refine (keepInts v9 v10 Z Z _ HOO.out HO10.out.sl).mono ?_; rw [eqL_self]; rintro e w11 ⟨rfl, n11, hw11⟩; have HB11 := hid (show Below w.heap.size w w11 from by rw [hw11]; exact below_drewN' HB10.out n11); clear hw11)
          | (have _u := HB9; clear _u; go_at_call 12; with_reducible refine (G9.out _ _ HL9.out).mono ?_; rintro e w10 ⟨v10, rfl, ho10, hb10⟩; have HO10 := hid ho10; have HOO := hid (HO9.out.below hb10); have HB10 := hid (HB9.out.trans (hb10.mono HB9.out.size)); clear ho10 hb10)
          | (have _u := HB8; clear _u; go_at_call 10; refine (G5.out _).mono ?_; rintro e w9 ⟨v9, rfl, ho9, hb9⟩; have HO9 := hid ho9; have HL9 := hid (HO8.out.below hb9); have HB9 := hid (HB8.out.trans (hb9.mono HB8.out.size)); clear ho9 hb9)
          | (have _u := HB7; clear _u; go_at_call 15; refine (G6.out _).mono ?_; rintro e w8 ⟨v8, rfl, ho8, hb8⟩; obtain ⟨a8', c8', hv8⟩ := ho8.form; rw [← HLM.out] at hv8; subst hv8; have HO8 := hid ho8; have HB8 := hid (HB7.out.trans (hb8.mono HB7.out.size)); clear ho8 hb8)
          | (have _u := HB6; clear _u; go_at_call 9; refine (keepInts v6 v3 (X ++ Y) (X ++ Y) _ HO6.out.sl HO36.out.sl).mono ?_; rw [eqL_self]; rintro e w7 ⟨rfl, n7, hw7⟩; have HB7 := hid (show Below w.heap.size w w7 from by rw [hw7]; exact below_drewN' HB6.out n7); clear hw7)
          | (have _u := HB5; clear _u; go_at_call 12; with_reducible refine (G3.out v5 _ HO5.out.sl).mono ?_; rintro e w6 ⟨v6, rfl, ho6, hb6⟩; have HO6 := hid ho6; have HO36 := hid ((HO3.out.below HP5.out).below hb6); have HB6 := hid (HB5.out.trans (hb6.mono HB5.out.size)); clear ho6 hb6)
          | (have _u := HB4; clear _u; at_builtin; go_loud (refine wpList_app _ rfl _ _ 22 rfl .i64 w3.heap.size 3 8 Try.underlying22 Try.infoI64 _ a b rfl HO4.out _ rfl (HS2.out.below HB4.out) (by have := HN1.out; have := HN2.out; unfold maxLen; omega) (by have := HN1.out; have := HN2.out; omega) HP4.out.size ?_); intro v5 w5 ho5 hg5 hb5 hn5; have HO5 := hid ho5; have HP5 := hid (HP4.out.trans hb5); have HB5 := hid (HB3.out.trans (HP5.out.mono HB3.out.size)); clear hg5 hn5 ho5 hb5)
          | (go_at_call 8; refine (G4.out _ (HS1.out.below HB3.out)).mono ?_; rintro e w4 ⟨v4, rfl, ho4, hb4⟩; have HO4 := hid ho4; have HP4 := hid hb4; have HB4 := hid (HB3.out.trans (hb4.mono HB3.out.size)); clear ho4 hb4)
          | (have _u := HB2; clear _u; at_builtin; go_loud (refine wpList_app _ rfl _ _ 22 rfl .i64 w.heap.size 3 8 Try.underlying22 Try.infoI64 _ X Y rfl HO12.out _ rfl HO2.out.sl (by have := L1.out; have := L2.out; unfold maxLen; omega) (by have := L1.out; have := L2.out; omega) HB2.out.size ?_); intro v3 w3 ho3 hg3 hb3 hn3; have HO3 := hid ho3; have HB3 := hid (HB2.out.trans hb3); clear hg3 hn3 ho3 hb3)
          | (have _u := HB1; clear _u; go_at_call 12; with_reducible refine (G2.out _ (HS2.out.below HB1.out)).mono ?_; rintro e w2 ⟨v2, rfl, ho2, hb2⟩; have HO2 := hid ho2; have HO12 := hid (HO1.out.below hb2); have HB2 := hid (HB1.out.trans (hb2.mono HB1.out.size)); clear ho2 hb2)
          | (go_at_call 12; with_reducible refine (G1.out _ HS1.out).mono ?_; rintro e w1 ⟨v1, rfl, ho1, hb1⟩; have HO1 := hid ho1; have HB1 := hid hb1; clear ho1 hb1))
        go_ret
        exact ⟨rfl, HB12.out⟩
    · have hg : 300 < n2 := by omega
      clear HO HA HP hl2
      go_enter Try.func5, Try.ntmps5
      go_wp2
      go_ret
      exact ⟨rfl, Below.refl _ _⟩
  · have hg : 300 < n1 := by omega
    clear HO HA HP hl1
    go_enter Try.func5, Try.ntmps5
    go_wp2
    go_ret
    exact ⟨rfl, Below.refl _ _⟩
end Go.Proofs.Ytjiheplifmakpaa

/-! Dec8g -/
namespace Go.Proofs.Ytjiheplifmakpaa
open Go.RowKit Go.Shelf

theorem mapZ_none {f : Int → List Int} {Z : Nat → Prop} {M : Nat} {W : World} (h : W.heap[M]? = some (.map #[] 0)) : MapZ f Z M W := ⟨_, _, h, fun e he => by simp at he⟩
theorem Sl.slZ {w : World} {v : Value} {xs : List Int} (h : Sl .i64 w v xs) : SlZ (fun b => ∃ o : Obj, w.heap[b]? = some o ∧ o.isCells = true) w v xs := by
  refine ⟨h, fun a n c e h0 => ?_⟩
  obtain ⟨a1, cap, hv, hl, hm, hh⟩ := h
  rw [e] at hv
  injection hv with e1 e2 e3
  rcases hh with hh | ⟨b, off, ha, hb, hc⟩
  · omega
  · rw [ha] at e1
    injection e1 with e1
    subst e1
    exact cells_of_cell (hc 0 h0)
theorem below_turned {M : Nat} {w w1 w2 w3 : World} (h1 : Below w.heap.size w w1) (hM : w.heap.size ≤ M) (hg : w1.grownBy w2 (some M)) (h3 : Below w.heap.size w2 w3) : Below w.heap.size w w3 :=
  (h1.grown hg h1.size (fun r e => by cases e; exact hM)).trans h3

set_option maxHeartbeats 1000000 in
theorem one8 (k : Bool) (c : Int) (w : World) (hi : inI c = true) : Calls Try.prog 10 #[.int .i64 c, .bool k] w fun e w' => ∃ x, e = .returned x ∧ Own .i64 3 w.heap.size w' x (oneS k c) ∧ Below w.heap.size w w' := by
  have hlen := oneS_len k c
  have HD := hid (deep_five (k := k) hi)
  go_enter Try.func10, Try.ntmps10
  go_wp2_with (first
    | (go_at_call 24; refine (newDec8 k _).mono ?_; rintro e w1 ⟨M, rfl, hM, hm1, hb1⟩; have HM1 := hid hm1; have HB1 := hid hb1; clear hm1 hb1)
    | (go_at_call 25; refine (full8 k M 4 c w1 (fun b => ∃ o : Obj, w1.heap[b]? = some o ∧ o.isCells = true) HD.out (fun _ h => h) (mapZ_none HM1.out)).mono ?_; rintro e w2 ⟨fv, rfl, hg2, hm2, hi2⟩; have HG2 := hid hg2; have HM2 := hid hm2; have HI2 := hid hi2; clear hg2 hm2 hi2)
    | (go_at_call 23; refine (collect8 k M 4 w.heap.size fv (oneS k c) w2 _ zn_cells HM2.out HI2.out (Nat.le_trans HB1.out.size HG2.out.size) hM (by omega)).mono ?_; rintro e w3 ⟨v3, rfl, ho3, hb3⟩; have HO3 := hid ho3; have HB3 := hid hb3; clear ho3 hb3))
  go_ret
  exact ⟨_, rfl, HO3.out.mono (Nat.le_trans HB1.out.size HG2.out.size), below_turned HB1.out hM HG2.out HB3.out⟩
set_option maxHeartbeats 1000000 in
theorem all8 (k : Bool) (v : Value) (s : List Int) (w : World) (hs : Sl .i64 w v s) (hi : s.all inI = true) (hl : s.length ≤ 1000000) : Calls Try.prog 12 #[v, .bool k] w fun e w' => ∃ x, e = .returned x ∧ Own .i64 3 w.heap.size w' x (allS k s) ∧ Below w.heap.size w w' := by
  have hlen : (allS k s).length ≤ s.length * (3 ^ 4 * 3) := each_len k 4 s
  have HD := hid (fun x (hx : x ∈ s) => deep_five (k := k) (List.all_eq_true.1 hi x hx))
  have HS := hid hs
  obtain ⟨a, cap, hv⟩ := hs.form
  subst hv
  clear hs
  go_enter Try.func12, Try.ntmps12
  go_wp2_with (first
    | (go_at_call 24; refine (newDec8 k _).mono ?_; rintro e w1 ⟨M, rfl, hM, hm1, hb1⟩; have HM1 := hid hm1; have HB1 := hid hb1; have HS1 := hid (Sl.slZ (HS.out.below hb1)); clear hm1 hb1)
    | (go_at_call 29; refine (each8 k M _ s w1 (fun b => ∃ o : Obj, w1.heap[b]? = some o ∧ o.isCells = true) (fun _ h => h) HS1.out).mono ?_; rintro e w2 ⟨rfl, hi2, hb2⟩; have HB2 := hid hb2; have HI2 := hid hi2; clear hb2 hi2)
    | (go_at_call 23; refine (collect8 k M 5 w.heap.size _ (allS k s) w2 _ zn_cells (MapZ.below (fun _ h => h) (mapZ_none HM1.out) HB2.out) (.inr ⟨_, _, s, rfl, HI2.out, rfl, HD.out⟩) (Nat.le_trans HB1.out.size HB2.out.size) hM (by omega)).mono ?_; rintro e w3 ⟨v3, rfl, ho3, hb3⟩; have HO3 := hid ho3; have HB3 := hid hb3; clear ho3 hb3))
  go_ret
  exact ⟨_, rfl, HO3.out.mono (Nat.le_trans HB1.out.size HB2.out.size), below_turned HB1.out hM (grown_some M HB2.out) HB3.out⟩
theorem oneDec : DOneOk := fun k c w hi => (one8 k c w hi).mono fun e w' h => by
  obtain ⟨x, h1, h2, h3⟩ := h
  exact ⟨x, h1, h2.sl, h3⟩
theorem allDec : DAllOk := fun k v s w hs hi hl => all8 k v s w hs hi hl
end Go.Proofs.Ytjiheplifmakpaa

/-! Walks8 -/
namespace Go.Proofs.Ytjiheplifmakpaa

theorem lawTwice8 (v : Value) (s : List Int) (w : World) (h : Sl .i64 w v s) (hi : s.all inI = true) :
    Calls Try.prog 6 #[v] w fun e w' => e = .returned (.bool true) ∧ Go.RowKit.Below w.heap.size w w' := walkTwice8 oneDec allDec v s w h hi
theorem lawExact8 (c : Int) (v : Value) (s : List Int) (k : Bool) (w : World) (hc : inI c = true) (h : Sl .i64 w v s) (hi : s.all inI = true) :
    Calls Try.prog 3 #[.int .i64 c, v, .bool k] w fun e w' => e = .returned (.bool true) ∧ Go.RowKit.Below w.heap.size w w' := walkExact8 oneDec allDec c v s k w hc h hi
theorem lawStays8 (v : Value) (s : List Int) (k : Bool) (w : World) (h : Sl .i64 w v s) (hi : s.all inI = true) :
    Calls Try.prog 4 #[v, .bool k] w fun e w' => e = .returned (.bool true) ∧ Go.RowKit.Below w.heap.size w w' := walkStays8 oneDec allDec splitOk v s k w h hi
theorem lawParts8 (va : Value) (a : List Int) (vb : Value) (b : List Int) (c : Int) (k : Bool) (w : World) (h1 : Sl .i64 w va a) (ha : a.all inI = true) (h2 : Sl .i64 w vb b) (hb : b.all inI = true) (hc : inI c = true) :
    Calls Try.prog 5 #[va, vb, .int .i64 c, .bool k] w fun e w' => e = .returned (.bool true) ∧ Go.RowKit.Below w.heap.size w w' := walkParts8 oneDec allDec splitOk va vb a b c k w h1 h2 ha hb hc
end Go.Proofs.Ytjiheplifmakpaa

/-! OpenB -/
namespace Go.Proofs.Ytjiheplifmakpaa
open Go.ChangeShapes Go.WideShapes Go.ChangeAt Go.RowKit Go.Deep
set_option linter.unusedVariables false
section
variable {H : Type} {enc : TypeId × Value → H} {P : Program} {w : World} {base : Nat} {spare : Nat → Bool} {held : Bool} {r : Reach} {b0 : Nat} {v : Value} {d : DataW H} {p : List MemPlace}

theorem wf_u8 {x : Int} (h : (Lit.int .u8 x).wf = true) : 0 ≤ x ∧ x ≤ 255 := by
  simpa [Lit.wf, IntKind.min, IntKind.max, IntKind.signed, IntKind.bits] using h
theorem wf_i64 {x : Int} (h : (Lit.int .i64 x).wf = true) : -9223372036854775808 ≤ x ∧ x ≤ 9223372036854775807 := by
  simpa [Lit.wf, IntKind.min, IntKind.max, IntKind.signed, IntKind.bits] using h

theorem open_bytes {t e : TypeId} (ht : P.underlying t = some (.slice e)) (he : P.underlying e = some (.int .u8)) (hc : P.cellsOf e = 1) (hv : Value.okWide P w r b0 t v) (h : DataW.Trod enc P w base (fun _ => true) held t v d p) :
    ∃ xs, Sl .u8 w v xs ∧ U8 xs := by
  obtain ⟨a0, len0, cap0, rfl⟩ := okWide_slice ht hv
  obtain ⟨fuel, hf⟩ := h
  rcases open_ints ht he hc hf with ⟨hcs, _⟩ | ⟨x, l, c, zs, hcs, _, hl, hm, hz, _, hcell, hwz⟩
  · simp [Value.cells] at hcs
    obtain ⟨rfl, rfl, rfl⟩ := hcs
    exact ⟨[], ⟨none, 0, rfl, Nat.le_refl _, by unfold maxLen; omega, .inl rfl⟩, U8.nil⟩
  · simp [Value.cells] at hcs
    obtain ⟨rfl, rfl, rfl⟩ := hcs
    have hzl : zs.length = cap0 := by rw [hz]; simp
    have hlen : (zs.take len0).length = len0 := by simp; omega
    refine ⟨zs.take len0, ⟨some x, cap0, by rw [hlen], by rw [hlen]; exact hl, hm, ?_⟩, fun n hn => wf_u8 (hwz n (List.mem_of_mem_take hn))⟩
    rcases Nat.eq_zero_or_pos zs.length with h0 | h0
    · exact .inl (by omega)
    · obtain ⟨b, off, spot⟩ := x
      have hc0 := hcell 0 h0
      have hspot : spot = none := by simpa [Addr.add] using World.cell?_spot hc0
      subst hspot
      refine .inr ⟨b, off, rfl, fun _ => World.block_lt_of_cell? w _ hc0, fun i hi => ?_⟩
      rw [hlen] at hi
      have := hcell i (by omega)
      rw [show (⟨b, off, none⟩ : Addr).add i = ⟨b, off + i, none⟩ by unfold Addr.add; split <;> simp_all] at this
      rw [this]
      simp [List.getD_eq_getElem?_getD, hi]

end
end Go.Proofs.Ytjiheplifmakpaa

/-! OpenL -/
namespace Go.Proofs.Ytjiheplifmakpaa
open Go.ChangeShapes Go.WideShapes Go.ChangeAt Go.RowKit Go.Deep
set_option linter.unusedVariables false
section
variable {H : Type} {enc : TypeId × Value → H} {P : Program} {w : World} {base : Nat} {spare : Nat → Bool} {held : Bool} {r : Reach} {b0 : Nat} {v : Value} {d : DataW H} {p : List MemPlace}

theorem open_intl {t e : TypeId} (ht : P.underlying t = some (.slice e)) (he : P.underlying e = some (.int .i64)) (hc : P.cellsOf e = 1) (hv : Value.okWide P w r b0 t v) (h : DataW.Trod enc P w base (fun _ => true) held t v d p) :
    ∃ xs, Sl .i64 w v xs ∧ ∀ x ∈ xs, -9223372036854775808 ≤ x ∧ x ≤ 9223372036854775807 := by
  obtain ⟨a0, len0, cap0, rfl⟩ := okWide_slice ht hv
  obtain ⟨fuel, hf⟩ := h
  rcases open_ints ht he hc hf with ⟨hcs, _⟩ | ⟨x, l, c, zs, hcs, _, hl, hm, hz, _, hcell, hwz⟩
  · simp [Value.cells] at hcs
    obtain ⟨rfl, rfl, rfl⟩ := hcs
    exact ⟨[], ⟨none, 0, rfl, Nat.le_refl _, by unfold maxLen; omega, .inl rfl⟩, (fun _ h => by cases h)⟩
  · simp [Value.cells] at hcs
    obtain ⟨rfl, rfl, rfl⟩ := hcs
    have hzl : zs.length = cap0 := by rw [hz]; simp
    have hlen : (zs.take len0).length = len0 := by simp; omega
    refine ⟨zs.take len0, ⟨some x, cap0, by rw [hlen], by rw [hlen]; exact hl, hm, ?_⟩, fun n hn => wf_i64 (hwz n (List.mem_of_mem_take hn))⟩
    rcases Nat.eq_zero_or_pos zs.length with h0 | h0
    · exact .inl (by omega)
    · obtain ⟨b, off, spot⟩ := x
      have hc0 := hcell 0 h0
      have hspot : spot = none := by simpa [Addr.add] using World.cell?_spot hc0
      subst hspot
      refine .inr ⟨b, off, rfl, fun _ => World.block_lt_of_cell? w _ hc0, fun i hi => ?_⟩
      rw [hlen] at hi
      have := hcell i (by omega)
      rw [show (⟨b, off, none⟩ : Addr).add i = ⟨b, off + i, none⟩ by unfold Addr.add; split <;> simp_all] at this
      rw [this]
      simp [List.getD_eq_getElem?_getD, hi]

theorem inI_of {c : Int} (h : -9223372036854775808 ≤ c ∧ c ≤ 9223372036854775807) : inI c = true := decide_eq_true h
theorem open_inl {t e : TypeId} (ht : P.underlying t = some (.slice e)) (he : P.underlying e = some (.int .i64)) (hc : P.cellsOf e = 1) (hv : Value.okWide P w r b0 t v) (h : DataW.Trod enc P w base (fun _ => true) held t v d p) :
    ∃ xs : List Int, Sl .i64 w v xs ∧ xs.all inI = true := by
  obtain ⟨xs, h1, h2⟩ := open_intl ht he hc hv h
  exact ⟨xs, h1, List.all_eq_true.2 fun x hx => inI_of (h2 x hx)⟩
end
end Go.Proofs.Ytjiheplifmakpaa

/-! Keep -/
namespace Go.Proofs.Ytjiheplifmakpaa
open Go.RowKit

theorem Try.infoU8 : (Try.prog.info? 5).map (fun i => (i.zero, i.size, i.bytes)) = some (some (.int .u8 0), 1, 1) := by kernel_rfl

end Go.Proofs.Ytjiheplifmakpaa
