/- Several texts in one: Deep8. -/
import Derived.Test.YtdncmdpacidgmaaPk17
/-! Deep8 -/
namespace Go.Proofs.Ytdncmdpacidgmaa
open Go.RowKit

theorem fnd_key {c : Int} : ∀ {l : List Rg}, (fndS (fun r => r.f == c) l).2 = true → ∃ r ∈ l, r.f = c
  | [], h => by simp [fndS] at h
  | r :: l, h => by
    by_cases hp : (r.f == c) = true
    · exact ⟨r, List.mem_cons_self .., eq_of_beq hp⟩
    · rw [fndS, if_neg hp] at h
      obtain ⟨x, hx, e⟩ := fnd_key h
      exact ⟨x, List.mem_cons_of_mem _ hx, e⟩
theorem fndM_key {c : Int} : ∀ {l : List Mp}, (fndM c l).1.t ≠ [] → ∃ m ∈ l, m.f = c
  | [], h => absurd rfl h
  | m :: l, h => by
    by_cases hp : (m.f == c) = true
    · exact ⟨m, List.mem_cons_self .., eq_of_beq hp⟩
    · rw [fndM, if_neg hp] at h
      obtain ⟨x, hx, e⟩ := fndM_key h
      exact ⟨x, List.mem_cons_of_mem _ hx, e⟩
theorem canon_key {c : Int} (h : canonS c ≠ []) : ∃ r ∈ tabCanon, r.f = c := by
  unfold canonS at h
  split at h
  · refine fnd_key ?_
    cases hf : (fndS (fun r => r.f == c) tabCanon).2 with
    | true => rfl
    | false =>
      refine absurd ?_ h
      unfold rowS
      rw [hf]
      rfl
  · exact absurd rfl h
theorem map_key {l : List Mp} {c : Int} (h : mapS l c ≠ []) : ∃ m ∈ l, m.f = c := by
  unfold mapS at h
  split at h
  · exact fndM_key h
  · exact absurd rfl h

set_option maxRecDepth 1000000 in
/-- the canonical decompositions, row by row: what their two scalars come apart to has levels enough -/
theorem deep_canon : (tabCanon.all fun r => (canonS r.f).all fun x => deepB true 3 x && deepB false 3 x) = true := by decide +kernel
set_option maxRecDepth 1000000 in
theorem deep_compat : (tabCompat.all fun m => (mapS tabCompat m.f).all (deepB true 3)) = true := by decide +kernel
theorem deep_all {k : Bool} {c : Int} (h : inI c = true) : deepB k 4 c = true := by
  rw [deepB, h, Bool.true_and, Bool.or_eq_true]
  right
  unfold stepS
  cases hc : (canonS c).isEmpty with
  | true =>
    simp only [if_true]
    cases k with
    | false => rfl
    | true =>
      simp only [if_true]
      by_cases hm : mapS tabCompat c = []
      · rw [hm]; rfl
      · obtain ⟨m, hm1, rfl⟩ := map_key hm
        exact List.all_eq_true.1 deep_compat m hm1
  | false =>
    simp only [Bool.false_eq_true, if_false]
    obtain ⟨r, hr, rfl⟩ := canon_key (c := c) (fun e => by rw [e] at hc; simp at hc)
    have := List.all_eq_true.1 deep_canon r hr
    rw [List.all_eq_true] at this ⊢
    intro x hx
    have h2 := this x hx
    rw [Bool.and_eq_true] at h2
    cases k with
    | true => exact h2.1
    | false => exact h2.2

def oneS (k : Bool) (c : Int) : List Int := oneN k 4 c
def allS (k : Bool) (s : List Int) : List Int := s.flatMap (oneS k)
end Go.Proofs.Ytdncmdpacidgmaa
