/- Several texts in one: RepNum. -/
import Derived.Test.YtobicndpkojgiaaPk1
/-! RepNum -/
namespace Go.Proofs.Ytobicndpkojgiaa
theorem ix_rem (x m : Int) (h0 : 0 < m) (h1 : m ≤ 4294967296) : ∃ K : Int, Go.RowKit.wrap64 ((IntKind.u64.wrap x).tmod m) = K ∧ 0 ≤ K ∧ K < m := by
  have h := ixr' x m h0
  exact ⟨_, by unfold Go.RowKit.wrap64; omega, h.1, h.2⟩
def lenV : Value → Nat
  | .slice _ n _ => n
  | _ => 0
end Go.Proofs.Ytobicndpkojgiaa
