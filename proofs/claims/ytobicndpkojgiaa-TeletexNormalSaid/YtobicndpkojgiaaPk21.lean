/- Several texts in one: TwinInts. -/
import Derived.Test.YtobicndpkojgiaaPk1
/-! TwinInts -/
namespace Go.Proofs.Ytobicndpkojgiaa
open Go.RowKit

theorem keepTwinInts (v : Value) (xs : List Int) (w : World) (h : Sl .i64 w v xs) (hl : xs.length ≤ 10000000000000) :
    Calls Try.prog 23 #[v] w fun e w' => ∃ v', e = .returned v' ∧ Own .i64 3 w.heap.size w' v' xs ∧ Below w.heap.size w w' := by
  have H := hid h
  obtain ⟨a, cap, rfl, -, -, -⟩ := h
  go_enter Try.func23, Try.ntmps23
  go_wp2_with (at_builtin; go_loud (refine wpList_app _ rfl _ _ 22 rfl .i64 w.heap.size 3 8 Try.underlying22 Try.infoI64 _ [] xs rfl (Own.nil _ _ _ _) _ rfl H.out (by unfold maxLen; simp; omega) (by simp; omega) (by omega) ?_); intro v' w' ho hg hb hn)
  go_ret
  exact ⟨_, rfl, ho, hb⟩

end Go.Proofs.Ytobicndpkojgiaa
