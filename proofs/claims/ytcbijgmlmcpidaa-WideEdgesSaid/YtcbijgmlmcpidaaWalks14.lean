/- Walks of law14, with what is proved of package wide put in. -/
import Derived.Test.YtcbijgmlmcpidaaWide14b
import Derived.Test.YtcbijgmlmcpidaaLawExact14
import Derived.Test.YtcbijgmlmcpidaaLawBack14
import Derived.Test.YtcbijgmlmcpidaaLawEdges14
namespace Go.Proofs.Ytcbijgmlmcpidaa
open Go.RowKit

theorem lawExact14 (v1 v2 : Value) (s b : List Int) (size : Int) (w : World) (h1 : Sl .i64 w v1 s) (h2 : Sl .u8 w v2 b) (hi : s.all inI = true) (hu : U8 b) :
    Calls Try.prog 3 #[v1, v2, .int .i64 size] w fun e w' => e = .returned (.bool true) ∧ Below w.heap.size w w' := walkExact14 widePutOk wideGetOk v1 v2 s b size w h1 h2 hi hu
theorem lawBack14 (v1 v2 : Value) (s b : List Int) (four : Bool) (w : World) (h1 : Sl .i64 w v1 s) (h2 : Sl .u8 w v2 b) (hi : s.all inI = true) (hu : U8 b) :
    Calls Try.prog 4 #[v1, v2, .bool four] w fun e w' => e = .returned (.bool true) ∧ Below w.heap.size w w' := walkBack14 widePutOk wideGetOk v1 v2 s b four w h1 h2 hi hu
theorem lawEdges14 (n0 how : Int) (w : World) :
    Calls Try.prog 5 #[.int .i64 n0, .int .i64 how] w fun e w' => e = .returned (.bool true) ∧ Below w.heap.size w w' := walkEdges14 widePutOk wideGetOk n0 how w
end Go.Proofs.Ytcbijgmlmcpidaa
