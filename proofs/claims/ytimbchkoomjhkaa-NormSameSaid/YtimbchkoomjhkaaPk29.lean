/- Several texts in one: Stab5, Stab6. -/
import Derived.Test.YtimbchkoomjhkaaPk27
import Derived.Test.YtimbchkoomjhkaaPk28
import Derived.Deep.DeepCutAuto
/-! Stab5 -/
namespace Go.Proofs.Ytimbchkoomjhkaa

theorem sym_parts {l : List (List Int)} {L R : List Nat} {a m b mid nn s s0 r0 : Nat} (hm : m = a + L.length) (hb : b = m + R.length) (hmid : mid = (a + b) / 2) (hnn : nn = mid + m)
    (hlo : (mid < m ∧ s0 + b = nn ∧ r0 = mid) ∨ (m ≤ mid ∧ s0 = a ∧ r0 = m)) (h0 : s0 ≤ s) (h1 : s ≤ r0) (hL : L.Pairwise (ilt l)) (hR : R.Pairwise (ilt l))
    (hs : s = s0 ∨ ilt l (L.getD (s - 1 - a) 0) (R.getD (nn - 1 - (s - 1) - m) 0)) (hr : s = r0 ∨ ilt l (R.getD (nn - 1 - s - m) 0) (L.getD (s - a) 0)) :
    a ≤ s ∧ s ≤ m ∧ m ≤ nn - s ∧ nn - s ≤ b ∧ (∀ x ∈ L.take (s - a), ∀ y ∈ R.drop (nn - s - m), ilt l x y) ∧ (∀ x ∈ R.take (nn - s - m), ∀ y ∈ L.drop (s - a), ilt l x y) := by
  refine ⟨by omega, by omega, by omega, by omega, fun x hx y hy => ?_, fun x hx y hy => ?_⟩
  · obtain ⟨i, hi1, hi2, rfl⟩ := mem_take_getD hx
    obtain ⟨j, hj1, hj2, rfl⟩ := mem_drop_getD hy
    rcases hs with hs | hs
    · omega
    · exact ile_trans (pw_le hL (show i ≤ s - 1 - a by omega) (by omega)) (ile_trans' hs (pw_le hR (show nn - 1 - (s - 1) - m ≤ j by omega) hj2))
  · obtain ⟨i, hi1, hi2, rfl⟩ := mem_take_getD hx
    obtain ⟨j, hj1, hj2, rfl⟩ := mem_drop_getD hy
    rcases hr with hr | hr
    · omega
    · exact ile_trans (pw_le hR (show i ≤ nn - 1 - s - m by omega) (by omega)) (ile_trans' hr (pw_le hL (show s - a ≤ j by omega) hj2))
end Go.Proofs.Ytimbchkoomjhkaa

/-! Stab6 -/
namespace Go.Proofs.Ytimbchkoomjhkaa
open Go.RowKit

theorem pw_noleft {l : List (List Int)} {L R : List Nat} (h : L.length = 0) (k : R.Pairwise (ilt l)) : (L ++ R).Pairwise (ilt l) := by
  rw [List.eq_nil_of_length_eq_zero h]; exact k
theorem pw_noright {l : List (List Int)} {L R : List Nat} (h : R.length = 0) (k : L.Pairwise (ilt l)) : (L ++ R).Pairwise (ilt l) := by
  rw [List.eq_nil_of_length_eq_zero h, List.append_nil]; exact k
theorem nil_rot {X Y : List Nat} (h : X.length = 0 ∨ Y.length = 0) (A T : List Nat) : A ++ X ++ Y ++ T = A ++ Y ++ X ++ T := by
  rcases h with h | h <;> rw [List.eq_nil_of_length_eq_zero h] <;> simp

end Go.Proofs.Ytimbchkoomjhkaa
