/- Several texts in one: Walks16. -/
import Derived.Test.YtniooeohklblhaaPk24
import Derived.Test.YtniooeohklblhaaPk30
import Derived.Test.YtniooeohklblhaaPk32
/-! Walks16 -/
namespace Go.Proofs.Ytniooeohklblhaa
open Go.RowKit

theorem lawExact16 (set place c : Int) (wide : Bool) (w : World) (hs : inI set = true) (hp : inI place = true) (hc : inI c = true) :
    Calls Try.prog 3 #[.int .i64 set, .int .i64 place, .int .i64 c, .bool wide] w fun e w' => e = .returned (.bool true) ∧ Below w.heap.size w w' := walkExact16 csAll set place c wide w hs hp hc
theorem lawPlaces16 (at_ : Int) (w : World) :
    Calls Try.prog 4 #[.int .i64 at_] w fun e w' => e = .returned (.bool true) ∧ Below w.heap.size w w' := walkPlaces16 csAll at_ w
theorem lawAccents16 (c at_ : Int) (w : World) (hc : inI c = true) :
    Calls Try.prog 5 #[.int .i64 c, .int .i64 at_] w fun e w' => e = .returned (.bool true) ∧ Below w.heap.size w w' := walkAccents16 csAll c at_ w hc
theorem lawFinals16 (at_ b : Int) (w : World) (hb : inI b = true) :
    Calls Try.prog 6 #[.int .i64 at_, .int .i64 b] w fun e w' => e = .returned (.bool true) ∧ Below w.heap.size w w' := walkFinals16 csAll at_ b w hb
end Go.Proofs.Ytniooeohklblhaa
