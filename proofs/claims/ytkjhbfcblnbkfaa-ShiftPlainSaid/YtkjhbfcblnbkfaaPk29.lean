/- Several texts in one: Walks17. -/
import Derived.Test.YtkjhbfcblnbkfaaPk21
import Derived.Test.YtkjhbfcblnbkfaaPk23
import Derived.Test.YtkjhbfcblnbkfaaPk24
import Derived.Test.YtkjhbfcblnbkfaaPk27
import Derived.Test.YtkjhbfcblnbkfaaPk26
import Derived.Test.YtkjhbfcblnbkfaaPk28
/-! Walks17 -/
namespace Go.Proofs.Ytkjhbfcblnbkfaa
open Go.RowKit

theorem sh17Wide : WideE := fun s w => csWide s w
theorem sh17ByFin : ByFinE := fun f wide w => csByFinal f wide w
theorem sh17Tok : ShTokOk := shTokens sh17Wide sh17ByFin
theorem sh17Esc : ShEscOk := shEscape sh17Wide
theorem sh17CWide : CWideOk := fun s w => (csWide s w).mono fun e w' h => ⟨h.1, by rw [← h.2]; exact Below.refl _ _⟩
theorem lawSets17 (which g p : Int) (right : Bool) (w : World) :
    Calls Try.prog 3 #[.int .i64 which, .int .i64 g, .int .i64 p, .bool right] w fun e w' => e = .returned (.bool true) ∧ Below w.heap.size w w' := walkSets17 sh17Tok sh17Esc sh17CWide which g p right w
theorem lawCut17 (v1 v2 : Value) (b m : List Int) (cut : Int) (w : World) (h1 : Sl .u8 w v1 b) (h2 : Sl .u8 w v2 m) (hu : U8 b) (hum : U8 m) :
    Calls Try.prog 4 #[v1, v2, .int .i64 cut] w fun e w' => e = .returned (.bool true) ∧ Below w.heap.size w w' := walkCut17 sh17Tok sh17Esc v1 v2 b m cut w h1 h2 hu hum
theorem lawPlain17 (v : Value) (l : List Int) (w : World) (h : Sl .i64 w v l) :
    Calls Try.prog 5 #[v] w fun e w' => e = .returned (.bool true) ∧ Below w.heap.size w w' := walkPlain17 sh17Tok sh17Esc v l w h
end Go.Proofs.Ytkjhbfcblnbkfaa
