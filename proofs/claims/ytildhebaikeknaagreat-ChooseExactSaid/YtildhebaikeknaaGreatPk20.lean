/- Several texts in one: NarIn. -/
import Derived.Test.YtildhebaikeknaaGreatPk1
/-! NarIn -/
namespace Go.Proofs.YtildhebaikeknaaGreat
open Go.RowKit

def inR (c lo hi : Int) : Bool := decide (lo ≤ c ∧ c ≤ hi)
theorem inR_t {c lo hi : Int} (h : lo ≤ c ∧ c ≤ hi) : inR c lo hi = true := decide_eq_true h
theorem inR_f {c lo hi : Int} (h : ¬ (lo ≤ c ∧ c ≤ hi)) : inR c lo hi = false := decide_eq_false h
theorem refIn15 (c lo hi : Int) (w : World) : Calls Tryz.prog 76 #[.int .i64 c, .int .i64 lo, .int .i64 hi] w fun e w' => e = .returned (.bool (inR c lo hi)) ∧ w = w' := by
  by_cases h1 : lo ≤ c
  · by_cases h2 : c ≤ hi
    · rw [inR_t ⟨h1, h2⟩]
      go_enter Tryz.func76, Tryz.ntmps76
      go_wp2
      go_ret
      exact ⟨rfl, rfl⟩
    · rw [inR_f (fun h => h2 h.2)]
      go_enter Tryz.func76, Tryz.ntmps76
      go_wp2
      go_ret
      exact ⟨rfl, rfl⟩
  · rw [inR_f (fun h => h1 h.1)]
    go_enter Tryz.func76, Tryz.ntmps76
    go_wp2
    go_ret
    exact ⟨rfl, rfl⟩
end Go.Proofs.YtildhebaikeknaaGreat
