/- Contracts of the document's UTF-8: the bytes of a scalar; the scalar that bytes begin with. No conditions. -/
import Derived.Test.YtajncbohgialaaaU8Math
import Derived.Test.YtajncbohgialaaaRefSc
namespace Go.Proofs.Ytajncbohgialaaa
open Go.RowKit

set_option maxHeartbeats 2000000 in
theorem refUtf8 (c : Int) (w : World) (h : scalarB c = true) : Calls Try.prog 24 #[.int .i64 c] w fun e w' => ∃ x, e = .returned x ∧ Own .u8 5 w.heap.size w' x (u8enc c) ∧ Below w.heap.size w w' := by
  unfold scalarB at h
  have h := of_decide_eq_true h
  have h0 : 0 ≤ c := h.1
  have hm : c ≤ 1114111 := h.2.1
  clear h
  by_cases h1 : c < 128
  · have HE := hid (show u8enc c = [c] by unfold u8enc; rw [if_pos (by omega)])
    go_enter Try.func24, Try.ntmps24
    go_wp2
    go_ret
    exact ⟨_, rfl, by rw [HE.out]; exact lit_own rfl (Nat.le_refl _) rfl rfl (by simp), by (repeat (first | exact Below.refl _ _ | exact below_drewN _ | refine Below.drew ?_ | refine Below.alloc ?_ (by simp) _ | refine Below.setCell ?_ (by simp) _ | refine below_drewN' ?_ _))⟩
  by_cases h2 : c < 2048
  · have HE := hid (show u8enc c = [192 + c / 64, 128 + c % 64] by unfold u8enc; rw [if_neg (by omega), if_pos (by omega)])
    go_enter Try.func24, Try.ntmps24
    go_wp2
    go_ret
    exact ⟨_, rfl, by rw [HE.out]; exact lit_own rfl (Nat.le_refl _) rfl rfl (by simp), by (repeat (first | exact Below.refl _ _ | exact below_drewN _ | refine Below.drew ?_ | refine Below.alloc ?_ (by simp) _ | refine Below.setCell ?_ (by simp) _ | refine below_drewN' ?_ _))⟩
  by_cases h3 : c < 65536
  · have HE := hid (show u8enc c = [224 + c / 4096, 128 + c / 64 % 64, 128 + c % 64] by unfold u8enc; rw [if_neg (by omega), if_neg (by omega), if_pos (by omega)])
    go_enter Try.func24, Try.ntmps24
    go_wp2
    go_ret
    exact ⟨_, rfl, by rw [HE.out]; exact lit_own rfl (Nat.le_refl _) rfl rfl (by simp), by (repeat (first | exact Below.refl _ _ | exact below_drewN _ | refine Below.drew ?_ | refine Below.alloc ?_ (by simp) _ | refine Below.setCell ?_ (by simp) _ | refine below_drewN' ?_ _))⟩
  · have HE := hid (show u8enc c = [240 + c / 262144, 128 + c / 4096 % 64, 128 + c / 64 % 64, 128 + c % 64] by unfold u8enc; rw [if_neg (by omega), if_neg (by omega), if_neg (by omega)])
    go_enter Try.func24, Try.ntmps24
    go_wp2
    go_ret
    exact ⟨_, rfl, by rw [HE.out]; exact lit_own rfl (Nat.le_refl _) rfl rfl (by simp), by (repeat (first | exact Below.refl _ _ | exact below_drewN _ | refine Below.drew ?_ | refine Below.alloc ?_ (by simp) _ | refine Below.setCell ?_ (by simp) _ | refine below_drewN' ?_ _))⟩
end Go.Proofs.Ytajncbohgialaaa
