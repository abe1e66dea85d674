/- Contract of the helper that copies a byte string: Twin returns a copy in new memory. -/
import Derived.Test.YtelpbjiohkeobaaKeep
namespace Go.Proofs.Ytelpbjiohkeobaa
open Go.RowKit

theorem keepTwin (v : Value) (xs : List Int) (w : World) (h : Sl .u8 w v xs) (hl : xs.length ≤ 100000000000000) :
    Calls Try.prog 7 #[v] w fun e w' => ∃ v', e = .returned v' ∧ Own .u8 5 w.heap.size w' v' xs ∧ Below w.heap.size w w' := by
  have H := hid h
  obtain ⟨a, cap, rfl, -, -, -⟩ := h
  go_enter Try.func7, Try.ntmps7
  go_wp2_with (at_builtin; refine wpList_app _ rfl _ _ 23 rfl .u8 w.heap.size 5 1 Try.underlying23 Try.infoU8 _ [] xs rfl (Own.nil _ _ _ _) _ rfl H.out (by unfold maxLen; simp; omega) (by simp; omega) (by omega) ?_; intro v' w' ho hg hb hn)
  go_ret
  exact ⟨_, rfl, ho, hb⟩

end Go.Proofs.Ytelpbjiohkeobaa
