/- Walks of law15, with what is proved of package narrow put in. -/
import Derived.Test.YtelpbjiohkeobaaNar15b
import Derived.Test.YtelpbjiohkeobaaLawExact15
import Derived.Test.YtelpbjiohkeobaaLawBack15
import Derived.Test.YtelpbjiohkeobaaLawFirst15
import Derived.Test.YtelpbjiohkeobaaLawIn15
namespace Go.Proofs.Ytelpbjiohkeobaa
open Go.RowKit

theorem lawExact15 (k c : Int) (v1 v2 : Value) (s b : List Int) (w : World) (hc : inI c = true) (h1 : Sl .i64 w v1 s) (hi : s.all inI = true) (h2 : Sl .u8 w v2 b) (hu : U8 b) :
    Calls Try.prog 3 #[.int .i64 k, .int .i64 c, v1, v2] w fun e w' => e = .returned (.bool true) ∧ Below w.heap.size w w' := walkExact15 narPutOk narGetOk narHas k c v1 v2 s b w hc h1 hi h2 hu
theorem lawBack15 (k : Int) (v1 v2 : Value) (s b : List Int) (w : World) (h1 : Sl .i64 w v1 s) (hi : s.all inI = true) (h2 : Sl .u8 w v2 b) (hu : U8 b) :
    Calls Try.prog 4 #[.int .i64 k, v1, v2] w fun e w' => e = .returned (.bool true) ∧ Below w.heap.size w w' := walkBack15 narPutOk narGetOk narHas k v1 v2 s b w h1 hi h2 hu
theorem lawFirst15 (which : Int) (v1 : Value) (s : List Int) (w : World) (h1 : Sl .i64 w v1 s) (hi : s.all inI = true) :
    Calls Try.prog 5 #[.int .i64 which, v1] w fun e w' => e = .returned (.bool true) ∧ Below w.heap.size w w' := walkFirst15 narPutOk narGetOk narHas which v1 s w h1 hi
theorem lawIn15 (c : Int) (w : World) (hc : inI c = true) :
    Calls Try.prog 6 #[.int .i64 c] w fun e w' => e = .returned (.bool true) ∧ Below w.heap.size w w' := walkIn15 narPutOk narGetOk narHas c w hc
end Go.Proofs.Ytelpbjiohkeobaa
