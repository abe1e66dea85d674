/- Several texts in one: U8Ok, WideOk. -/
import Derived.Test.YtildhebaikeknaaPk16
import Derived.Test.YtildhebaikeknaaPk18
import Derived.Test.YtildhebaikeknaaPk1
/-! U8Ok -/
namespace Go.Proofs.Ytildhebaikeknaa
open Go.RowKit

def UPutOk : Prop := ∀ (v : Value) (s : List Int) (w : World), Sl .i64 w v s → s.all inI = true → s.length ≤ 100000 → Calls Try.prog 15 #[v] w fun e w' => ∃ x, e = .returned (.tuple #[x, .int .i64 (outAt (putU s)), .int .i64 (outE 14 (putU s))]) ∧ Sl .u8 w' x (outL (putU s)) ∧ Below w.heap.size w w'
theorem w13_put : putU [8364] = .inl [226, 130, 172] := by decide +kernel
theorem w13_get : getU [226, 130, 172] = .inl [8364] := by decide +kernel
theorem w13_bad : getU [65, 192, 128] = .inr 1 := by decide +kernel

end Go.Proofs.Ytildhebaikeknaa

/-! WideOk -/
namespace Go.Proofs.Ytildhebaikeknaa
open Go.RowKit

def WPutOk : Prop := ∀ (v : Value) (s : List Int) (size : Int) (w : World), Sl .i64 w v s → s.all inI = true → s.length ≤ 100000 → Calls Try.prog 18 #[v, .int .i64 size] w fun e w' => ∃ x, e = .returned (.tuple #[x, .int .i64 (wput size s).2.1, .int .i64 (wput size s).2.2]) ∧ Own .u8 5 w.heap.size w' x (wput size s).1 ∧ Below w.heap.size w w'
theorem w14_put : wput 2 [321] = ([1, 65], 0, 0) := by decide +kernel
theorem w14_get : wget 2 [0, 65, 216, 0] = ([], 2, 13) := by decide +kernel

end Go.Proofs.Ytildhebaikeknaa
