/- Several texts in one: Walks12. -/
import Derived.Test.YtdncmdpacidgmaaPk34
import Derived.Test.YtdncmdpacidgmaaPk48
import Derived.Test.YtdncmdpacidgmaaPk50
import Derived.Test.YtdncmdpacidgmaaPk51
import Derived.Test.YtdncmdpacidgmaaPk52
import Derived.Test.YtdncmdpacidgmaaPk53
/-! Walks12 -/
namespace Go.Proofs.Ytdncmdpacidgmaa

theorem lawExact12 (c : Int) (v : Value) (s : List Int) (w : World) (hc : inI c = true) (h : Sl .i64 w v s) (hi : s.all inI = true) :
    Calls Try.prog 3 #[.int .i64 c, v] w fun e w' => e = .returned (.bool true) ∧ Go.RowKit.Below w.heap.size w w' := walkExact12 oneFold allFold c v s w hc h hi
theorem lawTwice12 (va vb : Value) (a b : List Int) (w : World) (h1 : Sl .i64 w va a) (h2 : Sl .i64 w vb b) (ha : a.all inI = true) (hb : b.all inI = true) :
    Calls Try.prog 4 #[va, vb] w fun e w' => e = .returned (.bool true) ∧ Go.RowKit.Below w.heap.size w w' := walkTwice12 oneFold allFold va vb a b w h1 h2 ha hb
theorem lawLetters12 (c : Int) (w : World) (hc : inI c = true) :
    Calls Try.prog 5 #[.int .i64 c] w fun e w' => e = .returned (.bool true) ∧ Go.RowKit.Below w.heap.size w w' := walkLetters12 oneFold allFold c w hc
theorem lawMarks12 (a b : Int) (w : World) (ha : inI a = true) (hb : inI b = true) :
    Calls Try.prog 6 #[.int .i64 a, .int .i64 b] w fun e w' => e = .returned (.bool true) ∧ Go.RowKit.Below w.heap.size w w' := walkMarks12 oneFold allFold normForm a b w ha hb
end Go.Proofs.Ytdncmdpacidgmaa
