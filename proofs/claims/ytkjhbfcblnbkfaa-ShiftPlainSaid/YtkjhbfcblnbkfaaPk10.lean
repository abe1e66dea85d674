/- Several texts in one: Ucd5, Ucd6. -/
import Derived.Test.YtkjhbfcblnbkfaaPk1
/-! Ucd5 -/
namespace Go.Proofs.Ytkjhbfcblnbkfaa
open Go.RowKit

/-- the first place of a number, or -1 -/
def idxL (c : Int) : List Int → Int → Int
  | [], _ => -1
  | x :: l, k => if x == c then k else idxL c l (k + 1)
def inL (c : Int) (l : List Int) : Bool := decide (0 ≤ idxL c l 0)
theorem idxL_drop {c : Int} : ∀ {l : List Int} {k : Nat} {o : Int}, k ≤ l.length → (∀ i, i < k → (l.getD i 0 == c) = false) → idxL c l o = idxL c (l.drop k) (o + (k : Int))
  | _, 0, o, _, _ => by simp
  | [], k + 1, _, h, _ => by simp at h
  | r :: l, k + 1, o, h, ha => by
    have h0 := ha 0 (by omega)
    simp only [List.getD_cons_zero] at h0
    rw [idxL, h0, List.drop_succ_cons, show o + ((k + 1 : Nat) : Int) = o + 1 + (k : Int) by omega]
    exact idxL_drop (by simpa using h) fun i hi => by simpa using ha (i + 1) (by omega)
theorem idxL_hit {c : Int} {l : List Int} {k : Nat} (h : k < l.length) (ha : ∀ i, i < k → (l.getD i 0 == c) = false) (hk : (l.getD k 0 == c) = true) : idxL c l 0 = (k : Int) := by
  rw [idxL_drop (by omega) ha, List.drop_eq_getElem_cons h, idxL]
  have e : l.getD k 0 = l[k] := by rw [List.getD_eq_getElem?_getD, List.getElem?_eq_getElem h]; rfl
  rw [e] at hk
  rw [hk]
  simp
theorem idxL_none {c : Int} {l : List Int} (ha : ∀ i, i < l.length → (l.getD i 0 == c) = false) : idxL c l 0 = -1 := by
  rw [idxL_drop (Nat.le_refl _) ha, List.drop_length]
  rfl

end Go.Proofs.Ytkjhbfcblnbkfaa

/-! Ucd6 -/
namespace Go.Proofs.Ytkjhbfcblnbkfaa
open Go.RowKit

def delS (excl : List Int) (cls : List Rg) (r : Rg) : Bool := r.v == 0 || inL r.f excl || lookS cls r.f != 0 || lookS cls r.t != 0
end Go.Proofs.Ytkjhbfcblnbkfaa
