/- Contracts of package ucd's tables of rows: keys, the first row with a key. -/
import Derived.Test.YtcjfjbddooicjaaRes6
import Derived.Test.YtcjfjbddooicjaaLater
import Derived.Test.YtcjfjbddooicjaaSg
namespace Go.Proofs.Ytcjfjbddooicjaa
open Go.RowKit

/-- the first of a list that has a property, and whether there is one -/
def fndS (p : Rg → Bool) : List Rg → Rg × Bool
  | [] => (noRg, false)
  | r :: l => if p r then (r, true) else fndS p l
theorem fndS_drop {p : Rg → Bool} : ∀ {l : List Rg} {k : Nat}, k ≤ l.length → (∀ i, i < k → p (l.getD i noRg) = false) → fndS p l = fndS p (l.drop k)
  | _, 0, _, _ => rfl
  | [], k + 1, h, _ => by simp at h
  | r :: l, k + 1, h, ha => by
    have h0 := ha 0 (by omega)
    simp only [List.getD_cons_zero] at h0
    rw [fndS, h0, List.drop_succ_cons]
    exact fndS_drop (by simpa using h) fun i hi => by simpa using ha (i + 1) (by omega)
theorem fndS_hit {p : Rg → Bool} {l : List Rg} {k : Nat} (h : k < l.length) (ha : ∀ i, i < k → p (l.getD i noRg) = false) (hk : p (l.getD k noRg) = true) : fndS p l = (l.getD k noRg, true) := by
  rw [fndS_drop (by omega) ha, List.drop_eq_getElem_cons h, fndS]
  have e : l.getD k noRg = l[k] := by rw [List.getD_eq_getElem?_getD, List.getElem?_eq_getElem h]; rfl
  rw [e] at hk ⊢
  rw [hk]
  rfl
theorem fndS_none {p : Rg → Bool} {l : List Rg} (ha : ∀ i, i < l.length → p (l.getD i noRg) = false) : fndS p l = (noRg, false) := by
  rw [fndS_drop (Nat.le_refl _) ha, List.drop_length]
  rfl

theorem box_last (w : World) (A : Obj) (t : TypeId) (cs : List Value) : Box t cs (w.heap.size + 1) ((w.alloc A).alloc (.cells cs.toArray t)) := by
  have := Box.made (w.alloc A) t cs
  simpa using this
theorem Box.three {t : TypeId} {a b c : Value} {B : Nat} {w : World} (h : Box t [a, b, c] B w) (x y z : Value) : Box t [x, y, z] B (((w.setCell ⟨B, 0, none⟩ x).setCell ⟨B, 1, none⟩ y).setCell ⟨B, 2, none⟩ z) :=
  ((h.set 0 x).set 1 y).set 2 z
theorem below_three {base B : Nat} {a b c : Value} {w0 w : World} (h : Below base w0 w) (hB : base ≤ B) : Below base w0 (((w.setCell ⟨B, 0, none⟩ a).setCell ⟨B, 1, none⟩ b).setCell ⟨B, 2, none⟩ c) :=
  ((h.setCell hB _).setCell hB _).setCell hB _
end Go.Proofs.Ytcjfjbddooicjaa
