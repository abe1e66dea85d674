/- RangesExact answers true, whatever its input: its ways together. -/
import Derived.Test.YtlngnmcflooccaaLawExact5NS
import Derived.Test.YtlngnmcflooccaaLawExact5NZ
import Derived.Test.YtlngnmcflooccaaLawExact5FS
import Derived.Test.YtlngnmcflooccaaLawExact5FZ
namespace Go.Proofs.Ytlngnmcflooccaa
open Go.RowKit

theorem lawExact5 (v1 : Value) (L : List Rg) (c : Int) (u1 u2 : Value) (ix bl : List Int) (w : World) (h1 : Sg w v1 L) (h2 : Sl .i64 w u1 ix) (h3 : Sl .i64 w u2 bl) :
    Calls Try.prog 3 #[v1, .int .i64 c, .agg #[u1, u2]] w fun e w' => e = .returned (.bool true) ∧ Below w.heap.size w w' := by
  by_cases hl : L.length ≤ 60 ∧ ix.length ≤ 5000 ∧ bl.length ≤ 5000
  · cases hf : flatS L with
    | true =>
      cases hu : unpackS ix bl with
      | some l => exact lawExact5FS v1 L c u1 u2 ix bl w h1 h2 h3 hl hf l hu
      | none => exact lawExact5FZ v1 L c u1 u2 ix bl w h1 h2 h3 hl hf hu
    | false =>
      cases hu : unpackS ix bl with
      | some l => exact lawExact5NS v1 L c u1 u2 ix bl w h1 h2 h3 hl hf l hu
      | none => exact lawExact5NZ v1 L c u1 u2 ix bl w h1 h2 h3 hl hf hu
  · exact lawExact5Long v1 L c u1 u2 ix bl w h1 h2 h3 (by omega)
end Go.Proofs.Ytlngnmcflooccaa
