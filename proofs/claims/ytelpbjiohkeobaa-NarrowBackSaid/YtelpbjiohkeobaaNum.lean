/- Plain words on numbers: what an int holds, scalars, ranges. No conditions. -/
import Derived.Test.YtelpbjiohkeobaaBase
namespace Go.Proofs.Ytelpbjiohkeobaa

def inI (c : Int) : Bool := decide (-9223372036854775808 ≤ c ∧ c ≤ 9223372036854775807)
theorem inI_of {c : Int} (h : -9223372036854775808 ≤ c ∧ c ≤ 9223372036854775807) : inI c = true := decide_eq_true h
/-- is it a scalar? -/
def scalarB (c : Int) : Bool := decide (0 ≤ c ∧ c ≤ 1114111 ∧ (c < 55296 ∨ 57343 < c))
theorem scalar_t {c : Int} (h : 0 ≤ c ∧ c ≤ 1114111 ∧ (c < 55296 ∨ 57343 < c)) : scalarB c = true := decide_eq_true h
theorem scalar_f {c : Int} (h : ¬ (0 ≤ c ∧ c ≤ 1114111 ∧ (c < 55296 ∨ 57343 < c))) : scalarB c = false := decide_eq_false h
theorem scalar_inI {c : Int} (h : scalarB c = true) : inI c = true := by
  unfold scalarB at h
  unfold inI
  rw [decide_eq_true_iff]
  have h := of_decide_eq_true h
  omega
def inB (c lo hi : Int) : Bool := decide (lo ≤ c ∧ c ≤ hi)
end Go.Proofs.Ytelpbjiohkeobaa
