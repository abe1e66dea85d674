/- Several texts in one: PrepOk. -/
import Derived.Test.YtidjjaginindoaaGreatPk22
import Derived.Test.YtidjjaginindoaaGreatPk23
import Derived.Test.YtidjjaginindoaaGreatPk24
/-! PrepOk -/
namespace Go.Proofs.YtidjjaginindoaaGreat
open Go.RowKit

def PrMapOk : Prop := ∀ (r : Int) (v : Value) (s : List Int) (w : World), inI r = true → Sl .i64 w v s → s.all inI = true → s.length ≤ 100000 → Calls Tryz.prog 14 #[v, .int .i64 r] w fun e w' => ∃ x, e = .returned x ∧ Sl .i64 w' x (mapP r s) ∧ Below w.heap.size w w'
def PrAllowedOk : Prop := ∀ (v : Value) (s : List Int) (w : World), Sl .i64 w v s → s.all inI = true → s.length ≤ 1000000 → Calls Tryz.prog 16 #[v] w fun e w' => e = .returned (.bool (alwP s)) ∧ Below w.heap.size w w'
def PrSpacesOk : Prop := ∀ (r : Int) (v : Value) (s : List Int) (w : World), inI r = true → Sl .i64 w v s → s.all inI = true → s.length ≤ 1000000 → Calls Tryz.prog 18 #[v, .int .i64 r] w fun e w' => ∃ x, e = .returned x ∧ Sl .i64 w' x (spacesP r s) ∧ Below w.heap.size w w'
def PrPrepOk : Prop := ∀ (r : Int) (v : Value) (s : List Int) (w : World), inI r = true → Sl .i64 w v s → s.all inI = true → s.length ≤ 100000 → FitsK true (mapP r s) → Calls Tryz.prog 10 #[v, .int .i64 r] w fun e w' => ∃ x, e = .returned (.tuple #[x, .bool (prepP r s).isSome]) ∧ Sl .i64 w' x ((prepP r s).getD []) ∧ Below w.heap.size w w'
def PrEqualOk : Prop := ∀ (r : Int) (va vb : Value) (a b : List Int) (w : World), inI r = true → Sl .i64 w va a → Sl .i64 w vb b → a.all inI = true → b.all inI = true → a.length ≤ 100000 → b.length ≤ 100000 → FitsK true (mapP r a) → FitsK true (mapP r b) → Calls Tryz.prog 12 #[va, vb, .int .i64 r] w fun e w' => e = .returned (.tuple #[.bool (sameP r a b).1, .bool (sameP r a b).2]) ∧ Below w.heap.size w w'

theorem mapR_inI {r c : Int} (h : inI c = true) : (mapR r c).all inI = true := by
  unfold mapR
  split
  · rfl
  · split
    · rfl
    · split
      · exact fold_inI h
      · simp [h]
theorem mapP_inI {r : Int} {s : List Int} (h : s.all inI = true) : (mapP r s).all inI = true := by
  rw [List.all_eq_true] at h ⊢
  intro x hx
  unfold mapP at hx
  obtain ⟨c, hc, hx⟩ := List.mem_flatMap.1 hx
  exact List.all_eq_true.1 (mapR_inI (h c hc)) x hx
theorem mapR_len (rule c : Int) : (mapR rule c).length ≤ 3 := by
  unfold mapR
  split
  · simp
  · split
    · simp
    · split
      · exact fold_len c
      · simp
theorem mapP_len (rule : Int) (s : List Int) : (mapP rule s).length ≤ 3 * s.length := by
  unfold mapP
  induction s with
  | nil => simp
  | cons c s ih => rw [List.flatMap_cons, List.length_append, List.length_cons]; have := mapR_len rule c; omega
theorem fits_map {r : Int} {s : List Int} (hi : s.all inI = true) (h : s.length ≤ 300) : FitsK true (mapP r s) := by
  have := mapP_len r s
  exact ⟨mapP_inI hi, by omega, allS_small2 (by omega)⟩
set_option maxRecDepth 1000000 in
theorem w21_words : prepP 1 [32, 65, 32, 32, 32, 66] = some [32, 97, 32, 32, 98, 32] := by decide +kernel
set_option maxRecDepth 1000000 in
theorem w21_no : prepP 1 [57344] = none := by decide +kernel
set_option maxRecDepth 1000000 in
theorem w21_num : prepP 3 [49, 32, 50] = some [49, 50] := by decide +kernel

set_option maxHeartbeats 4000000 in
theorem lawWakes21 (HP : PrPrepOk) (w : World) : Calls Tryz.prog 20 #[] w fun e w' => e = .returned (.bool true) ∧ Below w.heap.size w w' := by
  have H1 := hid (fun v w h => HP 1 v [32, 65, 32, 32, 32, 66] w (by decide) h (by decide) (by decide) (fits_map (by decide) (by decide)))
  rw [w21_words] at H1
  have H2 := hid (fun v w h => HP 1 v [57344] w (by decide) h (by decide) (by decide) (fits_map (by decide) (by decide)))
  rw [w21_no] at H2
  have H3 := hid (fun v w h => HP 3 v [49, 32, 50] w (by decide) h (by decide) (by decide) (fits_map (by decide) (by decide)))
  rw [w21_num] at H3
  simp only [Option.isSome_some, Option.isSome_none, Option.getD_some, Option.getD_none] at H1 H2 H3
  have HB0 := hid (Below.refl w.heap.size w)
  clear HP
  go_enter Tryz.func20, Tryz.ntmps20
  go_wp2_with (first
    | (have _u := HB4; clear _u; go_at_call 13; refine (keepInts _ _ [49, 50] [49, 50] _ (S_n_4.out.below (by (repeat (first | exact Below.refl _ _ | exact below_drewN _ | refine Below.drew ?_ | refine Below.alloc ?_ (by simp) _ | refine Below.setCell ?_ (by simp) _ | refine below_drewN' ?_ _)))) (lit_sl (by first | simp | rfl) rfl rfl (by simp))).mono ?_; rw [eqL_self]; rintro e w5 ⟨rfl, n5, hw5⟩; have hb5 : Below w4.heap.size w4 w5 := (by rw [hw5]; exact below_drewN' ((Below.refl _ _).alloc (Nat.le_refl _) _) n5); clear hw5; have HB5 := hid (HB4.out.trans (hb5.mono HB4.out.size)); clear hb5)
    | (have _u := HB3; clear _u; go_at_call 13; refine (keepInts _ _ [32, 97, 32, 32, 98, 32] [32, 97, 32, 32, 98, 32] _ (S_s_3.out.below (by (repeat (first | exact Below.refl _ _ | exact below_drewN _ | refine Below.drew ?_ | refine Below.alloc ?_ (by simp) _ | refine Below.setCell ?_ (by simp) _ | refine below_drewN' ?_ _)))) (lit_sl (by first | simp | rfl) rfl rfl (by simp))).mono ?_; rw [eqL_self]; rintro e w4 ⟨rfl, n4, hw4⟩; have hb4 : Below w3.heap.size w3 w4 := (by rw [hw4]; exact below_drewN' ((Below.refl _ _).alloc (Nat.le_refl _) _) n4); clear hw4; have S_n_4 := hid (S_n_3.out.below hb4); have HB4 := hid (HB3.out.trans (hb4.mono HB3.out.size)); clear hb4)
    | (have _u := HB2; clear _u; go_at_call 10; refine (H3.out _ _ (lit_sl (by first | simp | rfl) rfl rfl (by simp))).mono ?_; rintro e w3 ⟨v3, rfl, ho3, hb3⟩; replace hb3 := ((Below.refl w2.heap.size w2).alloc (Nat.le_refl _) _).trans (hb3.mono (by first | (simp; done) | (simp; omega))); have S_s_3 := hid (S_s_2.out.below hb3); have S_n_3 := hid ho3; clear ho3; have HB3 := hid (HB2.out.trans (hb3.mono HB2.out.size)); clear hb3)
    | (have _u := HB1; clear _u; go_at_call 10; refine (H2.out _ _ (lit_sl (by first | simp | rfl) rfl rfl (by simp))).mono ?_; rintro e w2 ⟨v2, rfl, ho2, hb2⟩; replace hb2 := ((Below.refl w1.heap.size w1).alloc (Nat.le_refl _) _).trans (hb2.mono (by first | (simp; done) | (simp; omega))); have S_s_2 := hid (S_s_1.out.below hb2); clear ho2; have HB2 := hid (HB1.out.trans (hb2.mono HB1.out.size)); clear hb2)
    | (have _u := HB0; clear _u; go_at_call 10; refine (H1.out _ _ (lit_sl (by first | simp | rfl) rfl rfl (by simp))).mono ?_; rintro e w1 ⟨v1, rfl, ho1, hb1⟩; replace hb1 := ((Below.refl w.heap.size w).alloc (Nat.le_refl _) _).trans (hb1.mono (by first | (simp; done) | (simp; omega))); have S_s_1 := hid ho1; clear ho1; have HB1 := hid (HB0.out.trans (hb1.mono HB0.out.size)); clear hb1))
  go_ret
  exact ⟨rfl, HB5.out⟩
end Go.Proofs.YtidjjaginindoaaGreat
