/- The walks of law07 over the package as it is: its contracts put in. No conditions. -/
import Derived.Test.YtcjfjbddooicjaaHang7
import Derived.Test.YtcjfjbddooicjaaLawExact7
import Derived.Test.YtcjfjbddooicjaaLawNone7
import Derived.Test.YtcjfjbddooicjaaLawBack7
namespace Go.Proofs.Ytcjfjbddooicjaa
open Go.RowKit
theorem wholeExact7 (a b : Int) (w : World) (ha : -9223372036854775808 ≤ a ∧ a ≤ 9223372036854775807) (hb : -9223372036854775808 ≤ b ∧ b ≤ 9223372036854775807) :
    Calls Try.prog 3 #[.int .i64 a, .int .i64 b] w fun e w' => e = .returned (.bool true) ∧ Below w.heap.size w w' := walkExact7 splitOk joinOk a b w ha hb
theorem wholeNone7 (a b : Int) (w : World) :
    Calls Try.prog 5 #[.int .i64 a, .int .i64 b] w fun e w' => e = .returned (.bool true) ∧ Below w.heap.size w w' := walkNone7 splitOk joinOk a b w
theorem wholeBack7 (n l v t : Int) (w : World) :
    Calls Try.prog 4 #[.int .i64 n, .int .i64 l, .int .i64 v, .int .i64 t] w fun e w' => e = .returned (.bool true) ∧ Below w.heap.size w w' := walkBack7 splitOk joinOk n l v t w
end Go.Proofs.Ytcjfjbddooicjaa
