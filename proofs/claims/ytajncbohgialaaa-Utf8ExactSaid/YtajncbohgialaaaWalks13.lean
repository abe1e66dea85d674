/- Walks of law13, with what is proved of package utf8 put in. -/
import Derived.Test.YtajncbohgialaaaUtf13d
import Derived.Test.YtajncbohgialaaaLawExact13
import Derived.Test.YtajncbohgialaaaLawBack13
import Derived.Test.YtajncbohgialaaaLawParts13
import Derived.Test.YtajncbohgialaaaLawLengths13
import Derived.Test.YtajncbohgialaaaLawBad13
namespace Go.Proofs.Ytajncbohgialaaa
open Go.RowKit

theorem lawExact13 (v1 v2 : Value) (s b : List Int) (w : World) (h1 : Sl .i64 w v1 s) (h2 : Sl .u8 w v2 b) (hi : s.all inI = true) (hu : U8 b) :
    Calls Try.prog 3 #[v1, v2] w fun e w' => e = .returned (.bool true) ∧ Below w.heap.size w w' := walkExact13 utfPutOk utfGetOk utfOne v1 v2 s b w h1 h2 hi hu
theorem lawBack13 (v1 v2 : Value) (s b : List Int) (w : World) (h1 : Sl .i64 w v1 s) (h2 : Sl .u8 w v2 b) (hi : s.all inI = true) (hu : U8 b) :
    Calls Try.prog 4 #[v1, v2] w fun e w' => e = .returned (.bool true) ∧ Below w.heap.size w w' := walkBack13 utfPutOk utfGetOk v1 v2 s b w h1 h2 hi hu
theorem lawParts13 (v1 v2 v3 : Value) (a b c : List Int) (w : World) (h1 : Sl .i64 w v1 a) (h2 : Sl .i64 w v2 b) (h3 : Sl .u8 w v3 c) (hia : a.all inI = true) (hib : b.all inI = true) (hu : U8 c) :
    Calls Try.prog 5 #[v1, v2, v3] w fun e w' => e = .returned (.bool true) ∧ Below w.heap.size w w' := walkParts13 utfPutOk utfGetOk v1 v2 v3 a b c w h1 h2 h3 hia hib hu
theorem lawLengths13 (c0 : Int) (w : World) :
    Calls Try.prog 6 #[.int .i64 c0] w fun e w' => e = .returned (.bool true) ∧ Below w.heap.size w w' := walkLengths13 utfPutOk utfGetOk utfOne c0 w
theorem lawBad13 (how n0 : Int) (w : World) :
    Calls Try.prog 7 #[.int .i64 how, .int .i64 n0] w fun e w' => e = .returned (.bool true) ∧ Below w.heap.size w w' := walkBad13 utfPutOk utfGetOk utfOne how n0 w
end Go.Proofs.Ytajncbohgialaaa
