/- Several texts in one: LawLetters12. -/
import Derived.Test.YtdncmdpacidgmaaPk31
import Derived.Test.YtdncmdpacidgmaaPk5
/-! LawLetters12 -/
namespace Go.Proofs.Ytdncmdpacidgmaa
open Go.RowKit

theorem ix_rem12 (x m : Int) (h0 : 0 < m) (h1 : m ≤ 1000000) : ∃ K : Nat, wrap64 ((IntKind.u64.wrap x).tmod m) = (K : Int) ∧ (K : Int) < m := by
  obtain ⟨a, b⟩ := ixr x m h0 h1
  exact ⟨(wrap64 ((IntKind.u64.wrap x).tmod m)).toNat, by omega, by omega⟩
set_option maxHeartbeats 4000000 in
theorem walkLetters12 (HO : FOneOk) (HA : FAllOk) (c : Int) (w : World) (hc : inI c = true) :
    Calls Try.prog 5 #[.int .i64 c] w fun e w' => e = .returned (.bool true) ∧ Below w.heap.size w w' := by
  have HW := hid (fun w => lawWakes12 HO HA w)
  have HB0 := hid (Below.refl w.heap.size w)
  obtain ⟨a, hA, a0⟩ := ix_rem12 c 128 (by decide) (by decide)
  have ha : a < 128 := by omega
  have G1 := hid (fun w => HO (a : Int) w (decide_eq_true ⟨by omega, by omega⟩))
  rw [fold_ascii a ha] at G1
  have G3 := hid (fun w => HO c w hc)
  have G4 := hid (fun w => ucdFold c w)
  have HN := hid (fun h => fold_none (c := c) h)
  have HS := hid (fun h => fold_some (c := c) h)
  generalize foldS c = O at G3 HN HS
  generalize mapS tabFolds c = M at G4 HN HS
  clear HO HA hc a0
  by_cases h65 : 65 ≤ a
  · have i65 : decide ((65 : Int) ≤ (a : Int)) = true := decide_eq_true (by omega)
    by_cases h90 : a ≤ 90
    · have i90 : decide ((a : Int) ≤ (90 : Int)) = true := decide_eq_true (by omega)
      rw [if_pos ⟨h65, h90⟩] at G1
      by_cases hm : M = []
      · rw [HN.out hm] at G3
        rw [hm] at G4
        clear HN HS hm
        go_enter Try.func5, Try.ntmps5
        go_wp2_with (first
          | (have _u := HB5; clear _u; go_at_call 14; refine (HW.out _).mono ?_; rintro e w6 ⟨rfl, hb6⟩; have HB6 := hid (HB5.out.trans (hb6.mono HB5.out.size)); clear hb6)
          | (have _u := HB4; clear _u; go_at_call 9; refine (keepInts _ _ [c] [c] _ (S_l_4.out.below (by (repeat (first | exact Below.refl _ _ | exact below_drewN _ | refine Below.drew ?_ | refine Below.alloc ?_ (by simp) _ | refine Below.setCell ?_ (by simp) _ | refine below_drewN' ?_ _)))) (lit_sl (by first | simp | rfl) rfl rfl (by simp))).mono ?_; rw [eqL_self]; rintro e w5 ⟨rfl, n5, hw5⟩; have hb5 : Below w4.heap.size w4 w5 := (by rw [hw5]; exact below_drewN' ((Below.refl _ _).alloc (Nat.le_refl _) _) n5); clear hw5; have HB5 := hid (HB4.out.trans (hb5.mono HB4.out.size)); clear hb5)
          | (have _u := HB3; clear _u; go_at_call 15; with_reducible refine (G4.out _).mono ?_; rintro e w4 ⟨v4, rfl, ho4, hb4⟩; obtain ⟨al, cl, rfl⟩ := ho4.form; simp only [List.length_nil]; have S_l_4 := hid (S_l_3.out.below hb4); clear ho4; have HB4 := hid (HB3.out.trans (hb4.mono HB3.out.size)); clear hb4)
          | (have _u := HB2; clear _u; go_at_call 10; with_reducible refine (G3.out _).mono ?_; rintro e w3 ⟨v3, rfl, ho3, hb3⟩; have S_l_3 := hid ho3; clear ho3; have HB3 := hid (HB2.out.trans (hb3.mono HB2.out.size)); clear hb3)
          | (have _u := HB1; clear _u; go_at_call 9; refine (keepInts _ _ [(a : Int) + 32] [(a : Int) + 32] _ (S_x_1.out.below (by (repeat (first | exact Below.refl _ _ | exact below_drewN _ | refine Below.drew ?_ | refine Below.alloc ?_ (by simp) _ | refine Below.setCell ?_ (by simp) _ | refine below_drewN' ?_ _)))) (lit_sl (by first | simp | rfl) rfl rfl (by simp))).mono ?_; rw [eqL_self]; rintro e w2 ⟨rfl, n2, hw2⟩; have hb2 : Below w1.heap.size w1 w2 := (by rw [hw2]; exact below_drewN' ((Below.refl _ _).alloc (Nat.le_refl _) _) n2); clear hw2; have HB2 := hid (HB1.out.trans (hb2.mono HB1.out.size)); clear hb2)
          | (have _u := HB0; clear _u; go_at_call 10; with_reducible refine (G1.out _).mono ?_; rintro e w1 ⟨v1, rfl, ho1, hb1⟩; have S_x_1 := hid ho1; clear ho1; have HB1 := hid (HB0.out.trans (hb1.mono HB0.out.size)); clear hb1))
        go_ret
        exact ⟨rfl, HB6.out⟩
      · rw [HS.out hm] at G3
        obtain ⟨m, hml⟩ : ∃ m, m = M.length := ⟨_, rfl⟩
        have hm0 : 0 < m := by rw [hml]; exact List.length_pos_iff.2 hm
        have hmz : ((m : Int) == 0) = false := by rw [beq_eq_false_iff_ne]; omega
        have HM := hid hml
        clear HN HS hm hml
        go_enter Try.func5, Try.ntmps5
        go_wp2_with (first
          | (have _u := HB6; clear _u; go_at_call 14; refine (HW.out _).mono ?_; rintro e w7 ⟨rfl, hb7⟩; have HB7 := hid (HB6.out.trans (hb7.mono HB6.out.size)); clear hb7)
          | (have _u := HB5; clear _u; go_at_call 9; refine (keepInts _ _ M M _ S_l_5.out S_g_5.out).mono ?_; rw [eqL_self]; rintro e w6 ⟨rfl, n6, hw6⟩; have hb6 : Below w5.heap.size w5 w6 := (by rw [hw6]; exact below_drewN n6); clear hw6; have HB6 := hid (HB5.out.trans (hb6.mono HB5.out.size)); clear hb6)
          | (have _u := HB4; clear _u; go_at_call 15; with_reducible refine (G4.out _).mono ?_; rintro e w5 ⟨v5, rfl, ho5, hb5⟩; have S_l_5 := hid (S_l_4.out.below hb5); have S_g_5 := hid ho5; clear ho5; have HB5 := hid (HB4.out.trans (hb5.mono HB4.out.size)); clear hb5)
          | (have _u := HB3; clear _u; go_at_call 15; with_reducible refine (G4.out _).mono ?_; rintro e w4 ⟨v4, rfl, ho4, hb4⟩; obtain ⟨al, cl, hvl⟩ := ho4.form; rw [← HM.out] at hvl; subst hvl; have S_l_4 := hid (S_l_3.out.below hb4); clear ho4; have HB4 := hid (HB3.out.trans (hb4.mono HB3.out.size)); clear hb4)
          | (have _u := HB2; clear _u; go_at_call 10; with_reducible refine (G3.out _).mono ?_; rintro e w3 ⟨v3, rfl, ho3, hb3⟩; have S_l_3 := hid ho3; clear ho3; have HB3 := hid (HB2.out.trans (hb3.mono HB2.out.size)); clear hb3)
          | (have _u := HB1; clear _u; go_at_call 9; refine (keepInts _ _ [(a : Int) + 32] [(a : Int) + 32] _ (S_x_1.out.below (by (repeat (first | exact Below.refl _ _ | exact below_drewN _ | refine Below.drew ?_ | refine Below.alloc ?_ (by simp) _ | refine Below.setCell ?_ (by simp) _ | refine below_drewN' ?_ _)))) (lit_sl (by first | simp | rfl) rfl rfl (by simp))).mono ?_; rw [eqL_self]; rintro e w2 ⟨rfl, n2, hw2⟩; have hb2 : Below w1.heap.size w1 w2 := (by rw [hw2]; exact below_drewN' ((Below.refl _ _).alloc (Nat.le_refl _) _) n2); clear hw2; have HB2 := hid (HB1.out.trans (hb2.mono HB1.out.size)); clear hb2)
          | (have _u := HB0; clear _u; go_at_call 10; with_reducible refine (G1.out _).mono ?_; rintro e w1 ⟨v1, rfl, ho1, hb1⟩; have S_x_1 := hid ho1; clear ho1; have HB1 := hid (HB0.out.trans (hb1.mono HB0.out.size)); clear hb1))
        go_ret
        exact ⟨rfl, HB7.out⟩
    · have i90 : decide ((a : Int) ≤ (90 : Int)) = false := decide_eq_false (by omega)
      rw [if_neg (fun h => h90 h.2)] at G1
      by_cases hm : M = []
      · rw [HN.out hm] at G3
        rw [hm] at G4
        clear HN HS hm
        go_enter Try.func5, Try.ntmps5
        go_wp2_with (first
          | (have _u := HB5; clear _u; go_at_call 14; refine (HW.out _).mono ?_; rintro e w6 ⟨rfl, hb6⟩; have HB6 := hid (HB5.out.trans (hb6.mono HB5.out.size)); clear hb6)
          | (have _u := HB4; clear _u; go_at_call 9; refine (keepInts _ _ [c] [c] _ (S_l_4.out.below (by (repeat (first | exact Below.refl _ _ | exact below_drewN _ | refine Below.drew ?_ | refine Below.alloc ?_ (by simp) _ | refine Below.setCell ?_ (by simp) _ | refine below_drewN' ?_ _)))) (lit_sl (by first | simp | rfl) rfl rfl (by simp))).mono ?_; rw [eqL_self]; rintro e w5 ⟨rfl, n5, hw5⟩; have hb5 : Below w4.heap.size w4 w5 := (by rw [hw5]; exact below_drewN' ((Below.refl _ _).alloc (Nat.le_refl _) _) n5); clear hw5; have HB5 := hid (HB4.out.trans (hb5.mono HB4.out.size)); clear hb5)
          | (have _u := HB3; clear _u; go_at_call 15; with_reducible refine (G4.out _).mono ?_; rintro e w4 ⟨v4, rfl, ho4, hb4⟩; obtain ⟨al, cl, rfl⟩ := ho4.form; simp only [List.length_nil]; have S_l_4 := hid (S_l_3.out.below hb4); clear ho4; have HB4 := hid (HB3.out.trans (hb4.mono HB3.out.size)); clear hb4)
          | (have _u := HB2; clear _u; go_at_call 10; with_reducible refine (G3.out _).mono ?_; rintro e w3 ⟨v3, rfl, ho3, hb3⟩; have S_l_3 := hid ho3; clear ho3; have HB3 := hid (HB2.out.trans (hb3.mono HB2.out.size)); clear hb3)
          | (have _u := HB1; clear _u; go_at_call 9; refine (keepInts _ _ [(a : Int)] [(a : Int)] _ (S_x_1.out.below (by (repeat (first | exact Below.refl _ _ | exact below_drewN _ | refine Below.drew ?_ | refine Below.alloc ?_ (by simp) _ | refine Below.setCell ?_ (by simp) _ | refine below_drewN' ?_ _)))) (lit_sl (by first | simp | rfl) rfl rfl (by simp))).mono ?_; rw [eqL_self]; rintro e w2 ⟨rfl, n2, hw2⟩; have hb2 : Below w1.heap.size w1 w2 := (by rw [hw2]; exact below_drewN' ((Below.refl _ _).alloc (Nat.le_refl _) _) n2); clear hw2; have HB2 := hid (HB1.out.trans (hb2.mono HB1.out.size)); clear hb2)
          | (have _u := HB0; clear _u; go_at_call 10; with_reducible refine (G1.out _).mono ?_; rintro e w1 ⟨v1, rfl, ho1, hb1⟩; have S_x_1 := hid ho1; clear ho1; have HB1 := hid (HB0.out.trans (hb1.mono HB0.out.size)); clear hb1))
        go_ret
        exact ⟨rfl, HB6.out⟩
      · rw [HS.out hm] at G3
        obtain ⟨m, hml⟩ : ∃ m, m = M.length := ⟨_, rfl⟩
        have hm0 : 0 < m := by rw [hml]; exact List.length_pos_iff.2 hm
        have hmz : ((m : Int) == 0) = false := by rw [beq_eq_false_iff_ne]; omega
        have HM := hid hml
        clear HN HS hm hml
        go_enter Try.func5, Try.ntmps5
        go_wp2_with (first
          | (have _u := HB6; clear _u; go_at_call 14; refine (HW.out _).mono ?_; rintro e w7 ⟨rfl, hb7⟩; have HB7 := hid (HB6.out.trans (hb7.mono HB6.out.size)); clear hb7)
          | (have _u := HB5; clear _u; go_at_call 9; refine (keepInts _ _ M M _ S_l_5.out S_g_5.out).mono ?_; rw [eqL_self]; rintro e w6 ⟨rfl, n6, hw6⟩; have hb6 : Below w5.heap.size w5 w6 := (by rw [hw6]; exact below_drewN n6); clear hw6; have HB6 := hid (HB5.out.trans (hb6.mono HB5.out.size)); clear hb6)
          | (have _u := HB4; clear _u; go_at_call 15; with_reducible refine (G4.out _).mono ?_; rintro e w5 ⟨v5, rfl, ho5, hb5⟩; have S_l_5 := hid (S_l_4.out.below hb5); have S_g_5 := hid ho5; clear ho5; have HB5 := hid (HB4.out.trans (hb5.mono HB4.out.size)); clear hb5)
          | (have _u := HB3; clear _u; go_at_call 15; with_reducible refine (G4.out _).mono ?_; rintro e w4 ⟨v4, rfl, ho4, hb4⟩; obtain ⟨al, cl, hvl⟩ := ho4.form; rw [← HM.out] at hvl; subst hvl; have S_l_4 := hid (S_l_3.out.below hb4); clear ho4; have HB4 := hid (HB3.out.trans (hb4.mono HB3.out.size)); clear hb4)
          | (have _u := HB2; clear _u; go_at_call 10; with_reducible refine (G3.out _).mono ?_; rintro e w3 ⟨v3, rfl, ho3, hb3⟩; have S_l_3 := hid ho3; clear ho3; have HB3 := hid (HB2.out.trans (hb3.mono HB2.out.size)); clear hb3)
          | (have _u := HB1; clear _u; go_at_call 9; refine (keepInts _ _ [(a : Int)] [(a : Int)] _ (S_x_1.out.below (by (repeat (first | exact Below.refl _ _ | exact below_drewN _ | refine Below.drew ?_ | refine Below.alloc ?_ (by simp) _ | refine Below.setCell ?_ (by simp) _ | refine below_drewN' ?_ _)))) (lit_sl (by first | simp | rfl) rfl rfl (by simp))).mono ?_; rw [eqL_self]; rintro e w2 ⟨rfl, n2, hw2⟩; have hb2 : Below w1.heap.size w1 w2 := (by rw [hw2]; exact below_drewN' ((Below.refl _ _).alloc (Nat.le_refl _) _) n2); clear hw2; have HB2 := hid (HB1.out.trans (hb2.mono HB1.out.size)); clear hb2)
          | (have _u := HB0; clear _u; go_at_call 10; with_reducible refine (G1.out _).mono ?_; rintro e w1 ⟨v1, rfl, ho1, hb1⟩; have S_x_1 := hid ho1; clear ho1; have HB1 := hid (HB0.out.trans (hb1.mono HB0.out.size)); clear hb1))
        go_ret
        exact ⟨rfl, HB7.out⟩
  · have i65 : decide ((65 : Int) ≤ (a : Int)) = false := decide_eq_false (by omega)
    rw [if_neg (fun h => h65 h.1)] at G1
    by_cases hm : M = []
    · rw [HN.out hm] at G3
      rw [hm] at G4
      clear HN HS hm
      go_enter Try.func5, Try.ntmps5
      go_wp2_with (first
        | (have _u := HB5; clear _u; go_at_call 14; refine (HW.out _).mono ?_; rintro e w6 ⟨rfl, hb6⟩; have HB6 := hid (HB5.out.trans (hb6.mono HB5.out.size)); clear hb6)
        | (have _u := HB4; clear _u; go_at_call 9; refine (keepInts _ _ [c] [c] _ (S_l_4.out.below (by (repeat (first | exact Below.refl _ _ | exact below_drewN _ | refine Below.drew ?_ | refine Below.alloc ?_ (by simp) _ | refine Below.setCell ?_ (by simp) _ | refine below_drewN' ?_ _)))) (lit_sl (by first | simp | rfl) rfl rfl (by simp))).mono ?_; rw [eqL_self]; rintro e w5 ⟨rfl, n5, hw5⟩; have hb5 : Below w4.heap.size w4 w5 := (by rw [hw5]; exact below_drewN' ((Below.refl _ _).alloc (Nat.le_refl _) _) n5); clear hw5; have HB5 := hid (HB4.out.trans (hb5.mono HB4.out.size)); clear hb5)
        | (have _u := HB3; clear _u; go_at_call 15; with_reducible refine (G4.out _).mono ?_; rintro e w4 ⟨v4, rfl, ho4, hb4⟩; obtain ⟨al, cl, rfl⟩ := ho4.form; simp only [List.length_nil]; have S_l_4 := hid (S_l_3.out.below hb4); clear ho4; have HB4 := hid (HB3.out.trans (hb4.mono HB3.out.size)); clear hb4)
        | (have _u := HB2; clear _u; go_at_call 10; with_reducible refine (G3.out _).mono ?_; rintro e w3 ⟨v3, rfl, ho3, hb3⟩; have S_l_3 := hid ho3; clear ho3; have HB3 := hid (HB2.out.trans (hb3.mono HB2.out.size)); clear hb3)
        | (have _u := HB1; clear _u; go_at_call 9; refine (keepInts _ _ [(a : Int)] [(a : Int)] _ (S_x_1.out.below (by (repeat (first | exact Below.refl _ _ | exact below_drewN _ | refine Below.drew ?_ | refine Below.alloc ?_ (by simp) _ | refine Below.setCell ?_ (by simp) _ | refine below_drewN' ?_ _)))) (lit_sl (by first | simp | rfl) rfl rfl (by simp))).mono ?_; rw [eqL_self]; rintro e w2 ⟨rfl, n2, hw2⟩; have hb2 : Below w1.heap.size w1 w2 := (by rw [hw2]; exact below_drewN' ((Below.refl _ _).alloc (Nat.le_refl _) _) n2); clear hw2; have HB2 := hid (HB1.out.trans (hb2.mono HB1.out.size)); clear hb2)
        | (have _u := HB0; clear _u; go_at_call 10; with_reducible refine (G1.out _).mono ?_; rintro e w1 ⟨v1, rfl, ho1, hb1⟩; have S_x_1 := hid ho1; clear ho1; have HB1 := hid (HB0.out.trans (hb1.mono HB0.out.size)); clear hb1))
      go_ret
      exact ⟨rfl, HB6.out⟩
    · rw [HS.out hm] at G3
      obtain ⟨m, hml⟩ : ∃ m, m = M.length := ⟨_, rfl⟩
      have hm0 : 0 < m := by rw [hml]; exact List.length_pos_iff.2 hm
      have hmz : ((m : Int) == 0) = false := by rw [beq_eq_false_iff_ne]; omega
      have HM := hid hml
      clear HN HS hm hml
      go_enter Try.func5, Try.ntmps5
      go_wp2_with (first
        | (have _u := HB6; clear _u; go_at_call 14; refine (HW.out _).mono ?_; rintro e w7 ⟨rfl, hb7⟩; have HB7 := hid (HB6.out.trans (hb7.mono HB6.out.size)); clear hb7)
        | (have _u := HB5; clear _u; go_at_call 9; refine (keepInts _ _ M M _ S_l_5.out S_g_5.out).mono ?_; rw [eqL_self]; rintro e w6 ⟨rfl, n6, hw6⟩; have hb6 : Below w5.heap.size w5 w6 := (by rw [hw6]; exact below_drewN n6); clear hw6; have HB6 := hid (HB5.out.trans (hb6.mono HB5.out.size)); clear hb6)
        | (have _u := HB4; clear _u; go_at_call 15; with_reducible refine (G4.out _).mono ?_; rintro e w5 ⟨v5, rfl, ho5, hb5⟩; have S_l_5 := hid (S_l_4.out.below hb5); have S_g_5 := hid ho5; clear ho5; have HB5 := hid (HB4.out.trans (hb5.mono HB4.out.size)); clear hb5)
        | (have _u := HB3; clear _u; go_at_call 15; with_reducible refine (G4.out _).mono ?_; rintro e w4 ⟨v4, rfl, ho4, hb4⟩; obtain ⟨al, cl, hvl⟩ := ho4.form; rw [← HM.out] at hvl; subst hvl; have S_l_4 := hid (S_l_3.out.below hb4); clear ho4; have HB4 := hid (HB3.out.trans (hb4.mono HB3.out.size)); clear hb4)
        | (have _u := HB2; clear _u; go_at_call 10; with_reducible refine (G3.out _).mono ?_; rintro e w3 ⟨v3, rfl, ho3, hb3⟩; have S_l_3 := hid ho3; clear ho3; have HB3 := hid (HB2.out.trans (hb3.mono HB2.out.size)); clear hb3)
        | (have _u := HB1; clear _u; go_at_call 9; refine (keepInts _ _ [(a : Int)] [(a : Int)] _ (S_x_1.out.below (by (repeat (first | exact Below.refl _ _ | exact below_drewN _ | refine Below.drew ?_ | refine Below.alloc ?_ (by simp) _ | refine Below.setCell ?_ (by simp) _ | refine below_drewN' ?_ _)))) (lit_sl (by first | simp | rfl) rfl rfl (by simp))).mono ?_; rw [eqL_self]; rintro e w2 ⟨rfl, n2, hw2⟩; have hb2 : Below w1.heap.size w1 w2 := (by rw [hw2]; exact below_drewN' ((Below.refl _ _).alloc (Nat.le_refl _) _) n2); clear hw2; have HB2 := hid (HB1.out.trans (hb2.mono HB1.out.size)); clear hb2)
        | (have _u := HB0; clear _u; go_at_call 10; with_reducible refine (G1.out _).mono ?_; rintro e w1 ⟨v1, rfl, ho1, hb1⟩; have S_x_1 := hid ho1; clear ho1; have HB1 := hid (HB0.out.trans (hb1.mono HB0.out.size)); clear hb1))
      go_ret
      exact ⟨rfl, HB7.out⟩
end Go.Proofs.Ytdncmdpacidgmaa
