/- A number drawn into a range by a remainder; short slices cell by cell. No conditions. -/
import Derived.Test.YtelpbjiohkeobaaBase
namespace Go.Proofs.Ytelpbjiohkeobaa
open Go.RowKit

theorem ixr' (x m : Int) (hm : 0 < m) : 0 ≤ (IntKind.u64.wrap x).tmod m ∧ (IntKind.u64.wrap x).tmod m < m := by
  have h0 : 0 ≤ IntKind.u64.wrap x := by
    simp only [IntKind.wrap, IntKind.bits, IntKind.signed]
    simp
    omega
  rw [Int.tmod_eq_emod_of_nonneg h0]
  exact ⟨Int.emod_nonneg _ (by omega), Int.emod_lt_of_pos _ hm⟩
theorem ixr (x m : Int) (hm : 0 < m) (hl : m ≤ 1000000) : 0 ≤ wrap64 ((IntKind.u64.wrap x).tmod m) ∧ wrap64 ((IntKind.u64.wrap x).tmod m) < m := by
  have h := ixr' x m hm
  have e : wrap64 ((IntKind.u64.wrap x).tmod m) = (IntKind.u64.wrap x).tmod m := by unfold wrap64; omega
  rw [e]
  exact h
theorem Sl.one {k : IntKind} {w : World} {v : Value} {x : Int} (h : Sl k w v [x]) : ∃ b o c, v = .slice (some ⟨b, o, none⟩) 1 c ∧ w.cell? ⟨b, o, none⟩ = some (.int k x) := by
  obtain ⟨a, c, rfl, hl, -, h⟩ := h
  rcases h with rfl | ⟨b, o, rfl, -, h⟩
  · simp at hl
  · exact ⟨b, o, c, rfl, by simpa using h 0 (by simp)⟩
theorem Sl.two {k : IntKind} {w : World} {v : Value} {x y : Int} (h : Sl k w v [x, y]) : ∃ b o c, v = .slice (some ⟨b, o, none⟩) 2 c ∧ w.cell? ⟨b, o, none⟩ = some (.int k x) ∧ w.cell? ⟨b, o + 1, none⟩ = some (.int k y) := by
  obtain ⟨a, c, rfl, hl, -, h⟩ := h
  rcases h with rfl | ⟨b, o, rfl, -, h⟩
  · simp at hl
  · exact ⟨b, o, c, rfl, by simpa using h 0 (by simp), by simpa using h 1 (by simp)⟩
end Go.Proofs.Ytelpbjiohkeobaa
