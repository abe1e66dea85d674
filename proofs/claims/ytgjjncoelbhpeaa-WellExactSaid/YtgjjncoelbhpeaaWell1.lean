/- Contracts of package well's rightForm and head: whether a header fits its tag; a value's header or its error. -/
import Derived.Test.YtgjjncoelbhpeaaWellSpec
import Derived.Test.YtgjjncoelbhpeaaTlvOne
namespace Go.Proofs.Ytgjjncoelbhpeaa
open Go.RowKit

theorem wellRight (h : Hd) (w : World) :
    Calls Try.prog 34 #[h.val] w fun e w' => e = .returned (.bool (rightS h)) ∧ Below w.heap.size w w' := by
  obtain ⟨cls, tag, cons, len, size⟩ := h
  unfold Hd.val
  dsimp only
  go_enter Try.func34, Try.ntmps34
  go_wp2
  all_goals go_ret
  all_goals
    refine ⟨ret_bool ?_, by (repeat (first | exact Below.refl _ _ | exact below_drewN _ | refine Below.drew ?_ | refine Below.alloc ?_ (by simp) _ | refine Below.setCell ?_ (by simp) _ | refine below_drewN' ?_ _))⟩
    unfold rightS
    dsimp only
    cases cons
    all_goals (try simp_all)
    all_goals (try omega)

end Go.Proofs.Ytgjjncoelbhpeaa
