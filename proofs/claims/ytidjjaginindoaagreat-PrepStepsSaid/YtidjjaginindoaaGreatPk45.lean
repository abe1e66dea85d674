/- Several texts in one: WalkSteps21. -/
import Derived.Test.YtidjjaginindoaaGreatPk41
import Derived.Test.YtidjjaginindoaaGreatPk44
/-! WalkSteps21 -/
namespace Go.Proofs.YtidjjaginindoaaGreat
open Go.RowKit

theorem lawSteps21 (v : Value) (s : List Int) (which : Int) (w : World) (hs : Sl .i64 w v s) (hi : s.all inI = true) :
    Calls Tryz.prog 4 #[v, .int .i64 which] w fun e w' => e = .returned (.bool true) ∧ Below w.heap.size w w' := walkSteps21 prMapIs normForm prPrepIs prAllowed prSpaces v s which w hs hi
end Go.Proofs.YtidjjaginindoaaGreat
