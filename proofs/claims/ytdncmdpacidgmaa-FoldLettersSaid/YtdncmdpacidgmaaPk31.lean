/- Several texts in one: FoldOk. -/
import Derived.Test.YtdncmdpacidgmaaPk24
import Derived.Test.YtdncmdpacidgmaaPk5
/-! FoldOk -/
namespace Go.Proofs.Ytdncmdpacidgmaa
open Go.RowKit

def FOneOk : Prop := ∀ (c : Int) (w : World), inI c = true → Calls Try.prog 10 #[.int .i64 c] w fun e w' => ∃ x, e = .returned x ∧ Sl .i64 w' x (foldS c) ∧ Below w.heap.size w w'
def FAllOk : Prop := ∀ (v : Value) (s : List Int) (w : World), Sl .i64 w v s → s.all inI = true → s.length ≤ 1000000 → Calls Try.prog 12 #[v] w fun e w' => ∃ x, e = .returned x ∧ Own .i64 3 w.heap.size w' x (foldAllS s) ∧ Below w.heap.size w w'
theorem foldAll_inI {s : List Int} (hi : s.all inI = true) : (foldAllS s).all inI = true := by
  rw [List.all_eq_true]
  intro x hx
  unfold foldAllS at hx
  rw [List.mem_flatMap] at hx
  obtain ⟨c, hc, hx⟩ := hx
  exact List.all_eq_true.1 (fold_inI (List.all_eq_true.1 hi c hc)) x hx
theorem w12_all : foldAllS [83, 223] = [115, 115, 115] := by decide +kernel
theorem w12_one : foldS 49 = [49] := by decide +kernel

set_option maxHeartbeats 4000000 in
theorem lawWakes12 (HO : FOneOk) (HA : FAllOk) (w : World) : Calls Try.prog 14 #[] w fun e w' => e = .returned (.bool true) ∧ Below w.heap.size w w' := by
  have H1 := hid (fun v w h => HA v [83, 223] w h (by decide) (by decide))
  rw [w12_all] at H1
  have H2 := hid (fun w => HO 49 w (by decide))
  rw [w12_one] at H2
  have HB0 := hid (Below.refl w.heap.size w)
  clear HO HA
  go_enter Try.func14, Try.ntmps14
  go_wp2_with (first
    | (have _u := HB3; clear _u; go_at_call 9; refine (keepInts _ _ [49] [49] _ (S_b_3.out.below (by (repeat (first | exact Below.refl _ _ | exact below_drewN _ | refine Below.drew ?_ | refine Below.alloc ?_ (by simp) _ | refine Below.setCell ?_ (by simp) _ | refine below_drewN' ?_ _)))) (lit_sl (by first | simp | rfl) rfl rfl (by simp))).mono ?_; rw [eqL_self]; rintro e w4 ⟨rfl, n4, hw4⟩; have hb4 : Below w3.heap.size w3 w4 := (by rw [hw4]; exact below_drewN' ((Below.refl _ _).alloc (Nat.le_refl _) _) n4); clear hw4; have HB4 := hid (HB3.out.trans (hb4.mono HB3.out.size)); clear hb4)
    | (have _u := HB2; clear _u; go_at_call 10; refine (H2.out _).mono ?_; rintro e w3 ⟨v3, rfl, ho3, hb3⟩; have S_b_3 := hid ho3; clear ho3; have HB3 := hid (HB2.out.trans (hb3.mono HB2.out.size)); clear hb3)
    | (have _u := HB1; clear _u; go_at_call 9; refine (keepInts _ _ [115, 115, 115] [115, 115, 115] _ (S_a_1.out.below (by (repeat (first | exact Below.refl _ _ | exact below_drewN _ | refine Below.drew ?_ | refine Below.alloc ?_ (by simp) _ | refine Below.setCell ?_ (by simp) _ | refine below_drewN' ?_ _)))) (lit_sl (by first | simp | rfl) rfl rfl (by simp))).mono ?_; rw [eqL_self]; rintro e w2 ⟨rfl, n2, hw2⟩; have hb2 : Below w1.heap.size w1 w2 := (by rw [hw2]; exact below_drewN' ((Below.refl _ _).alloc (Nat.le_refl _) _) n2); clear hw2; have HB2 := hid (HB1.out.trans (hb2.mono HB1.out.size)); clear hb2)
    | (have _u := HB0; clear _u; go_at_call 12; refine (H1.out _ _ (lit_sl (by first | simp | rfl) rfl rfl (by simp))).mono ?_; rintro e w1 ⟨v1, rfl, ho1, hb1⟩; replace hb1 := ((Below.refl w.heap.size w).alloc (Nat.le_refl _) _).trans (hb1.mono (by first | (simp; done) | (simp; omega))); have S_a_1 := hid ho1.sl; clear ho1; have HB1 := hid (HB0.out.trans (hb1.mono HB0.out.size)); clear hb1))
  go_ret
  exact ⟨rfl, HB4.out⟩
end Go.Proofs.Ytdncmdpacidgmaa
