/- Several texts in one: UcdWakes, LawPairs6. -/
import Derived.Test.YtdncmdpacidgmaaPk19
import Derived.Test.YtdncmdpacidgmaaPk5
/-! UcdWakes -/
namespace Go.Proofs.Ytdncmdpacidgmaa
open Go.RowKit

end Go.Proofs.Ytdncmdpacidgmaa

/-! LawPairs6 -/
namespace Go.Proofs.Ytdncmdpacidgmaa
open Go.RowKit

theorem fndS_true {p : Rg → Bool} : ∀ {l : List Rg}, (fndS p l).2 = true → (fndS p l).1 ∈ l ∧ p (fndS p l).1 = true
  | [], h => by simp [fndS] at h
  | r :: l, h => by
    by_cases hp : p r = true
    · rw [fndS, if_pos hp]
      exact ⟨List.mem_cons_self .., hp⟩
    · rw [fndS, if_neg hp] at h ⊢
      have := fndS_true h
      exact ⟨List.mem_cons_of_mem _ this.1, this.2⟩
theorem fndS_false {p : Rg → Bool} : ∀ {l : List Rg}, (fndS p l).2 = false → (fndS p l).1 = noRg
  | [], _ => rfl
  | r :: l, h => by
    by_cases hp : p r = true
    · rw [fndS, if_pos hp] at h
      simp at h
    · rw [fndS, if_neg hp] at h ⊢
      exact fndS_false h
theorem pair_facts {a b : Int} (h : (pairS a b).2 = true) : canonS (pairS a b).1 = [a, b] ∧ classS (pairS a b).1 = 0 ∧ classS a = 0 ∧ scalarB (pairS a b).1 = true ∧ (b != 0) = true ∧ mapS tabCompat (pairS a b).1 = [] := by
  obtain ⟨hm, hp⟩ := fndS_true (p := fun r => r.t == a && r.v == b) (l := tabPair) h
  have hf := List.all_eq_true.1 f_pairs _ hm
  simp only [Bool.and_eq_true, beq_iff_eq] at hf hp
  obtain ⟨h1, h2, h3, h4, h5, h6⟩ := hf
  rw [hp.1, hp.2] at h1
  rw [hp.1] at h3
  rw [hp.2] at h5
  exact ⟨h1, h2, h3, h4, h5, h6⟩

end Go.Proofs.Ytdncmdpacidgmaa
