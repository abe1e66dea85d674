/- Several texts in one: LawParts8. -/
import Derived.Test.YtdncmdpacidgmaaPk22
import Derived.Test.YtdncmdpacidgmaaPk5
/-! LawParts8 -/
namespace Go.Proofs.Ytdncmdpacidgmaa
open Go.RowKit

set_option maxRecDepth 1000000 in
theorem rows_off : (tabCanon.all fun r => decide (r.f < 44032 ∨ 55203 < r.f)) = true ∧ (tabCompat.all fun m => decide (m.f < 44032 ∨ 55203 < m.f)) = true := by decide +kernel
theorem canon_nosplit {c : Int} (h : canonS c ≠ []) : splitS c = [] := by
  obtain ⟨r, hr, rfl⟩ := canon_key h
  have := List.all_eq_true.1 rows_off.1 r hr
  simp only [decide_eq_true_eq] at this
  exact splitS_out (by omega)
theorem compat_nosplit {c : Int} (h : mapS tabCompat c ≠ []) : splitS c = [] := by
  obtain ⟨m, hm, rfl⟩ := map_key h
  have := List.all_eq_true.1 rows_off.2 m hm
  simp only [decide_eq_true_eq] at this
  exact splitS_out (by omega)
theorem i64_of8 {x : Int} (h : inI x = true) : I64n x := by
  unfold inI at h
  have h2 := of_decide_eq_true h
  exact h2
theorem step_inI {k : Bool} {c : Int} (hi : inI c = true) (hs : splitS c = []) : (stepS k c).all inI = true := by
  rw [List.all_eq_true]
  intro x hx
  have := (deep_step (deep_all (k := k) hi) hs).2 x hx
  rw [deepB, Bool.and_eq_true] at this
  exact this.1
theorem compat_step {c : Int} (hca : canonS c = []) : stepS true c = mapS tabCompat c := by
  unfold stepS
  rw [hca]
  rfl
theorem compat_one {c : Int} (hi : inI c = true) (hca : canonS c = []) (hne : mapS tabCompat c ≠ []) : oneS true c = allS true (mapS tabCompat c) := by
  rw [← compat_step hca]
  exact one_parts hi (compat_nosplit hne) (by rw [compat_step hca]; exact hne)
theorem compat_inI {c : Int} (hi : inI c = true) (hca : canonS c = []) (hne : mapS tabCompat c ≠ []) : (mapS tabCompat c).all inI = true := by
  rw [← compat_step hca]
  exact step_inI hi (compat_nosplit hne)
theorem compat_len {c : Int} (hca : canonS c = []) : (mapS tabCompat c).length ≤ 3 := by
  rw [← compat_step hca]
  exact stepS_len true c
theorem split_inI (c : Int) : (splitS c).all inI = true := by
  rw [List.all_eq_true]
  intro x hx
  obtain ⟨h0, h1⟩ := split_letters x hx
  exact decide_eq_true ⟨by omega, by omega⟩
theorem split_len (c : Int) : (splitS c).length ≤ 3 := by
  unfold splitS partsN
  split
  · split <;> simp
  · simp

end Go.Proofs.Ytdncmdpacidgmaa
