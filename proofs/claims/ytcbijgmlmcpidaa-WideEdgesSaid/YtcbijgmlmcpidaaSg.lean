/- Slices of ranges: what they hold. -/
import Derived.Test.YtcbijgmlmcpidaaRngSpec
namespace Go.Proofs.Ytcbijgmlmcpidaa
open Go.RowKit

def noRg : Rg := ⟨0, 0, 0⟩
/-- The value v is a slice that holds the ranges l. -/
def Sg (w : World) (v : Value) (l : List Rg) : Prop :=
  ∃ a cap, v = .slice a l.length cap ∧ l.length ≤ cap ∧ cap ≤ maxLen ∧
    (cap = 0 ∨ ∃ b off, a = some ⟨b, off, none⟩ ∧ (0 < l.length → b < w.heap.size) ∧ ∀ i, i < l.length →
      w.cell? ⟨b, off + i * 3, none⟩ = some (.int .i64 (l.getD i noRg).f) ∧ w.cell? ⟨b, off + i * 3 + 1, none⟩ = some (.int .i64 (l.getD i noRg).t) ∧ w.cell? ⟨b, off + i * 3 + 2, none⟩ = some (.int .i64 (l.getD i noRg).v))
theorem Sg.below {w w' : World} {v : Value} {l : List Rg} (h : Sg w v l) (hb : Below w.heap.size w w') : Sg w' v l := by
  obtain ⟨a, cap, hv, hl, hm, h⟩ := h
  refine ⟨a, cap, hv, hl, hm, ?_⟩
  rcases h with h | ⟨b, off, ha, hbb, hc⟩
  · exact .inl h
  · refine .inr ⟨b, off, ha, fun h0 => Nat.lt_of_lt_of_le (hbb h0) hb.size, fun i hi => ?_⟩
    obtain ⟨h1, h2, h3⟩ := hc i hi
    have hlt := hbb (by omega)
    exact ⟨(hb.cell (p := ⟨b, off + i * 3, none⟩) hlt).trans h1, (hb.cell (p := ⟨b, off + i * 3 + 1, none⟩) hlt).trans h2, (hb.cell (p := ⟨b, off + i * 3 + 2, none⟩) hlt).trans h3⟩
theorem Sg.drewN {w : World} {v : Value} {l : List Rg} (h : Sg w v l) (n : Nat) : Sg (w.drewN n) v l := h
theorem Sg.form {w : World} {v : Value} {l : List Rg} (h : Sg w v l) : ∃ a c, v = .slice a l.length c := by
  obtain ⟨a, c, rfl, -, -, -⟩ := h
  exact ⟨a, c, rfl⟩
theorem Sg.len {w : World} {v : Value} {l : List Rg} (h : Sg w v l) : l.length ≤ 9223372036854775807 := by
  obtain ⟨a, cap, _, hl, hm, _⟩ := h
  unfold maxLen at hm
  omega
/-- told by its place: the first that has c -/
theorem lookS_drop : ∀ {l : List Rg} {k : Nat} {c : Int}, k ≤ l.length → (∀ i, i < k → ¬ ((l.getD i noRg).f ≤ c ∧ c ≤ (l.getD i noRg).t)) → lookS l c = lookS (l.drop k) c
  | _, 0, _, _, _ => rfl
  | [], k + 1, _, h, _ => by simp at h
  | r :: l, k + 1, c, h, ha => by
    have h0 := ha 0 (by omega)
    rw [lookS, if_neg (by simpa using h0), List.drop_succ_cons]
    exact lookS_drop (by simpa using h) fun i hi => by simpa using ha (i + 1) (by omega)
theorem lookS_hit {l : List Rg} {k : Nat} {c : Int} (h : k < l.length) (ha : ∀ i, i < k → ¬ ((l.getD i noRg).f ≤ c ∧ c ≤ (l.getD i noRg).t)) (hk : (l.getD k noRg).f ≤ c ∧ c ≤ (l.getD k noRg).t) : lookS l c = (l.getD k noRg).v := by
  rw [lookS_drop (by omega) ha, List.drop_eq_getElem_cons h, lookS]
  have e : l.getD k noRg = l[k] := by rw [List.getD_eq_getElem?_getD, List.getElem?_eq_getElem h]; rfl
  rw [e] at hk ⊢
  rw [if_pos hk]
theorem lookS_none {l : List Rg} {c : Int} (ha : ∀ i, i < l.length → ¬ ((l.getD i noRg).f ≤ c ∧ c ≤ (l.getD i noRg).t)) : lookS l c = 0 := by
  rw [lookS_drop (Nat.le_refl _) ha, List.drop_length]
  rfl
end Go.Proofs.Ytcbijgmlmcpidaa
