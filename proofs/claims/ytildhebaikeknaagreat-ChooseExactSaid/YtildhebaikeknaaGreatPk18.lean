/- Several texts in one: Twin, TwinInts, RefSc. -/
import Derived.Test.YtildhebaikeknaaGreatPk1
/-! Twin -/
namespace Go.Proofs.YtildhebaikeknaaGreat
open Go.RowKit

end Go.Proofs.YtildhebaikeknaaGreat

/-! TwinInts -/
namespace Go.Proofs.YtildhebaikeknaaGreat
open Go.RowKit

end Go.Proofs.YtildhebaikeknaaGreat

/-! RefSc -/
namespace Go.Proofs.YtildhebaikeknaaGreat
open Go.RowKit

theorem refIn6 (c lo hi : Int) (w : World) : Calls Tryz.prog 71 #[.int .i64 c, .int .i64 lo, .int .i64 hi] w fun e w' => e = .returned (.bool (inB c lo hi)) ∧ w = w' := by
  by_cases h0 : lo ≤ c
  · by_cases h1 : c ≤ hi
    · have HR := hid (show inB c lo hi = true from decide_eq_true ⟨h0, h1⟩)
      go_enter Tryz.func71, Tryz.ntmps71
      go_wp2
      go_ret
      exact ⟨by rw [HR.out]; rfl, rfl⟩
    · have HR := hid (show inB c lo hi = false from decide_eq_false (fun h => h1 h.2))
      go_enter Tryz.func71, Tryz.ntmps71
      go_wp2
      go_ret
      exact ⟨by rw [HR.out]; rfl, rfl⟩
  · have HR := hid (show inB c lo hi = false from decide_eq_false (fun h => h0 h.1))
    go_enter Tryz.func71, Tryz.ntmps71
    go_wp2
    go_ret
    exact ⟨by rw [HR.out]; rfl, rfl⟩

theorem refScalar6 (c : Int) (w : World) : Calls Tryz.prog 51 #[.int .i64 c] w fun e w' => e = .returned (.bool (scalarB c)) ∧ w = w' := by
  obtain ⟨b1, hb1⟩ : ∃ b, b = inB c 0 1114111 := ⟨_, rfl⟩
  obtain ⟨b2, hb2⟩ : ∃ b, b = inB c 55296 57343 := ⟨_, rfl⟩
  have HR := hid (show (b1 && !b2) = scalarB c by
    rw [hb1, hb2]
    unfold scalarB inB
    rw [Bool.eq_iff_iff]
    simp only [Bool.and_eq_true, Bool.not_eq_true', decide_eq_true_eq, decide_eq_false_iff_not]
    omega)
  have H1 := hid hb1
  have H2 := hid hb2
  clear hb1 hb2
  cases b1 with
  | true =>
    go_enter Tryz.func51, Tryz.ntmps51
    go_wp2_with (first
      | (go_at_call 71; with_reducible refine (refIn6 c 0 1114111 _).mono ?_; rw [← H1.out]; rintro e w1 ⟨rfl, rfl⟩)
      | (go_at_call 71; with_reducible refine (refIn6 c 55296 57343 _).mono ?_; rw [← H2.out]; rintro e w1 ⟨rfl, rfl⟩))
    go_ret
    exact ⟨by rw [← HR.out]; rfl, rfl⟩
  | false =>
    go_enter Tryz.func51, Tryz.ntmps51
    go_wp2_with (first
      | (go_at_call 71; with_reducible refine (refIn6 c 0 1114111 _).mono ?_; rw [← H1.out]; rintro e w1 ⟨rfl, rfl⟩))
    go_ret
    exact ⟨by rw [← HR.out]; rfl, rfl⟩
end Go.Proofs.YtildhebaikeknaaGreat
