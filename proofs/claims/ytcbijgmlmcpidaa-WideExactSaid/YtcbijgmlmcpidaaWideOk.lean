/- What is asked of package wide; law14's wakes. No conditions. -/
import Derived.Test.YtcbijgmlmcpidaaWideSpec
import Derived.Test.YtcbijgmlmcpidaaNum
import Derived.Test.YtcbijgmlmcpidaaKeep
import Derived.Test.YtcbijgmlmcpidaaKeepInts
namespace Go.Proofs.Ytcbijgmlmcpidaa
open Go.RowKit

def WPutOk : Prop := ∀ (v : Value) (s : List Int) (size : Int) (w : World), Sl .i64 w v s → s.all inI = true → s.length ≤ 100000 → Calls Try.prog 7 #[v, .int .i64 size] w fun e w' => ∃ x, e = .returned (.tuple #[x, .int .i64 (wput size s).2.1, .int .i64 (wput size s).2.2]) ∧ Own .u8 5 w.heap.size w' x (wput size s).1 ∧ Below w.heap.size w w'
def WGetOk : Prop := ∀ (v : Value) (b : List Int) (size : Int) (w : World), Sl .u8 w v b → U8 b → b.length ≤ 1000000 → Calls Try.prog 8 #[v, .int .i64 size] w fun e w' => ∃ x, e = .returned (.tuple #[x, .int .i64 (wget size b).2.1, .int .i64 (wget size b).2.2]) ∧ Sl .i64 w' x (wget size b).1 ∧ Below w.heap.size w w'
theorem w14_put : wput 2 [321] = ([1, 65], 0, 0) := by decide +kernel
theorem w14_get : wget 2 [0, 65, 216, 0] = ([], 2, 13) := by decide +kernel

set_option maxHeartbeats 4000000 in
theorem lawWakes14 (HP : WPutOk) (HG : WGetOk) (w : World) : Calls Try.prog 13 #[] w fun e w' => e = .returned (.bool true) ∧ Below w.heap.size w w' := by
  have H1 := hid (fun v w h => HP v [321] 2 w h (by decide) (by decide))
  rw [w14_put] at H1
  have H2 := hid (fun v w h => HG v [0, 65, 216, 0] 2 w h (by unfold U8; decide) (by decide))
  rw [w14_get] at H2
  have HB0 := hid (Below.refl w.heap.size w)
  clear HP HG
  go_enter Try.func13, Try.ntmps13
  go_wp2_with (first
    | (have _u := HB2; clear _u; go_at_call 11; refine (keepBytes _ _ [1, 65] [1, 65] _ (S_b_2.out.below (by (repeat (first | exact Below.refl _ _ | exact below_drewN _ | refine Below.drew ?_ | refine Below.alloc ?_ (by simp) _ | refine Below.setCell ?_ (by simp) _ | refine below_drewN' ?_ _)))) (lit_sl (by first | simp | rfl) rfl rfl (by simp))).mono ?_; rw [eqL_self]; rintro e w3 ⟨rfl, n3, hw3⟩; have hb3 : Below w2.heap.size w2 w3 := (by rw [hw3]; exact below_drewN' ((Below.refl _ _).alloc (Nat.le_refl _) _) n3); clear hw3; have HB3 := hid (HB2.out.trans (hb3.mono HB2.out.size)); clear hb3)
    | (have _u := HB1; clear _u; go_at_call 8; refine (H2.out _ _ (lit_sl (by first | simp | rfl) rfl rfl (by simp))).mono ?_; rintro e w2 ⟨v2, rfl, ho2, hb2⟩; replace hb2 := ((Below.refl w1.heap.size w1).alloc (Nat.le_refl _) _).trans (hb2.mono (by first | (simp; done) | (simp; omega))); have S_b_2 := hid (S_b_1.out.below hb2); clear ho2; have HB2 := hid (HB1.out.trans (hb2.mono HB1.out.size)); clear hb2)
    | (have _u := HB0; clear _u; go_at_call 7; refine (H1.out _ _ (lit_sl (by first | simp | rfl) rfl rfl (by simp))).mono ?_; rintro e w1 ⟨v1, rfl, ho1, hb1⟩; replace hb1 := ((Below.refl w.heap.size w).alloc (Nat.le_refl _) _).trans (hb1.mono (by first | (simp; done) | (simp; omega))); have S_b_1 := hid ho1.sl; clear ho1; have HB1 := hid (HB0.out.trans (hb1.mono HB0.out.size)); clear hb1))
  go_ret
  exact ⟨rfl, HB3.out⟩
end Go.Proofs.Ytcbijgmlmcpidaa
