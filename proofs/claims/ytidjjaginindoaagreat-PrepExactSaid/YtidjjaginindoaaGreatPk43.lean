/- Several texts in one: WalkExact21. -/
import Derived.Test.YtidjjaginindoaaGreatPk41
import Derived.Test.YtidjjaginindoaaGreatPk42
/-! WalkExact21 -/
namespace Go.Proofs.YtidjjaginindoaaGreat
open Go.RowKit

theorem lawExact21 (va vb : Value) (s t : List Int) (r : Int) (w : World) (hs : Sl .i64 w va s) (ht : Sl .i64 w vb t) (hr : inI r = true) (hi : s.all inI = true) (hj : t.all inI = true) :
    Calls Tryz.prog 3 #[va, vb, .int .i64 r] w fun e w' => e = .returned (.bool true) ∧ Below w.heap.size w w' := walkExact21 prMapIs prAllowed prSpaces prPrepIs prEqualIs va vb s t r w hs ht hr hi hj
end Go.Proofs.YtidjjaginindoaaGreat
