/- Several texts in one: NarIn. -/
import Derived.Test.YtobicndpkojgiaaPk1
/-! NarIn -/
namespace Go.Proofs.Ytobicndpkojgiaa
open Go.RowKit

def inR (c lo hi : Int) : Bool := decide (lo ≤ c ∧ c ≤ hi)
theorem inR_t {c lo hi : Int} (h : lo ≤ c ∧ c ≤ hi) : inR c lo hi = true := decide_eq_true h
theorem inR_f {c lo hi : Int} (h : ¬ (lo ≤ c ∧ c ≤ hi)) : inR c lo hi = false := decide_eq_false h
end Go.Proofs.Ytobicndpkojgiaa
