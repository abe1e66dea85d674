/- Several texts in one: WalkCase21. -/
import Derived.Test.YtidjjaginindoaaGreatPk41
import Derived.Test.YtidjjaginindoaaGreatPk47
/-! WalkCase21 -/
namespace Go.Proofs.YtidjjaginindoaaGreat
open Go.RowKit

theorem lawCase21 (v : Value) (s : List Int) (which at_ no : Int) (w : World) (hs : Sl .i64 w v s) (hi : s.all inI = true) :
    Calls Tryz.prog 5 #[v, .int .i64 which, .int .i64 at_, .int .i64 no] w fun e w' => e = .returned (.bool true) ∧ Below w.heap.size w w' := walkCase21 prPrepIs allFold v s which at_ no w hs hi
end Go.Proofs.YtidjjaginindoaaGreat
