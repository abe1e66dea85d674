/- Several texts in one: TelOk. -/
import Derived.Test.YtildhebaikeknaaGreatPk23
import Derived.Test.YtildhebaikeknaaGreatPk19
import Derived.Test.YtildhebaikeknaaGreatPk1
/-! TelOk -/
namespace Go.Proofs.YtildhebaikeknaaGreat
open Go.RowKit

/-- what was read, where it failed, how -/
def r3L : List Int ⊕ (Nat × Int) → List Int
  | .inl x => x
  | .inr _ => []
def r3At : List Int ⊕ (Nat × Int) → Nat
  | .inl _ => 0
  | .inr (i, _) => i
def r3E : List Int ⊕ (Nat × Int) → Int
  | .inl _ => 0
  | .inr (_, e) => e
def TPutOk : Prop := ∀ (v : Value) (s : List Int) (w : World), Sl .i64 w v s → s.all inI = true → s.length ≤ 100000 → Calls Tryz.prog 33 #[v] w fun e w' => ∃ x, e = .returned (.tuple #[x, .int .i64 (outAt (put18 s)), .int .i64 (outE 14 (put18 s))]) ∧ Sl .u8 w' x (outL (put18 s)) ∧ Below w.heap.size w w'
set_option maxRecDepth 1000000 in
theorem w18_put : put18 [192, 945] = .inl [193, 65, 27, 40, 70, 97] := by decide +kernel
set_option maxRecDepth 1000000 in
theorem w18_read : read18 [193, 65] = .inl [192] := by decide +kernel
set_option maxRecDepth 1000000 in
theorem w18_bad : put18 [65, 19968] = .inr 1 := by decide +kernel
set_option maxRecDepth 1000000 in
theorem w18_has : has18 36 = true := by decide +kernel

end Go.Proofs.YtildhebaikeknaaGreat
