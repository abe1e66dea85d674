/- Several texts in one: WalkSpaces21. -/
import Derived.Test.YtidjjaginindoaaGreatPk41
import Derived.Test.YtidjjaginindoaaGreatPk50
/-! WalkSpaces21 -/
namespace Go.Proofs.YtidjjaginindoaaGreat
open Go.RowKit

theorem lawSpaces21 (va vb : Value) (l q : List Int) (ends : Int) (w : World) (hs : Sl .i64 w va l) (ht : Sl .i64 w vb q) (hi : l.all inI = true) (hj : q.all inI = true) :
    Calls Tryz.prog 6 #[va, vb, .int .i64 ends] w fun e w' => e = .returned (.bool true) ∧ Below w.heap.size w w' := walkSpaces21 prPrepIs prEqualIs va vb l q ends w hs ht hi hj
end Go.Proofs.YtidjjaginindoaaGreat
