/- What layer 4's walks need of package sets: its four contracts in the words that the walks use; a literal slice of slices of bytes. -/
import Derived.Test.YtgdbjbkmkdkhhaaRefSets3
import Derived.Test.YtgdbjbkmkdkhhaaTwinRows
import Derived.Test.YtgdbjbkmkdkhhaaHeavy4
import Derived.Test.YtgdbjbkmkdkhhaaSort4
namespace Go.Proofs.Ytgdbjbkmkdkhhaa
open Go.RowKit

def CompareOk : Prop := ∀ (v1 v2 : Value) (xs ys : List Int) (w : World), Sl .u8 w v1 xs → Sl .u8 w v2 ys → U8 xs → U8 ys →
  Calls Try.prog 15 #[v1, v2] w fun e w' => e = .returned (.int .i64 (cmpS xs ys)) ∧ ∃ n, w' = w.drewN n
def SortedOk : Prop := ∀ (v : Value) (xss : List (List Int)) (w : World), Rws w v xss → RU xss →
  Calls Try.prog 13 #[v] w fun e w' => e = .returned (.bool (sortedS xss)) ∧ ∃ n, w' = w.drewN n
def PlaceOk : Prop := ∀ (v : Value) (l : List (List Int)) (w : World), Rws w v l → RU l → l.length ≤ 60 → (∀ x ∈ l, x.length ≤ 100) →
  Calls Try.prog 10 #[v] w fun e w' => ∃ v' p, e = .returned v' ∧ IsPl l l.length p ∧ Own .i64 3 w.heap.size w' v' (castL p) ∧ Below w.heap.size w w'
def SortOk : Prop := ∀ (v : Value) (l : List (List Int)) (w : World), Rws w v l → RU l → l.length ≤ 60 → (∀ x ∈ l, x.length ≤ 100) →
  Calls Try.prog 9 #[v] w fun e w' => ∃ v' p, e = .returned v' ∧ IsPl l l.length p ∧ OwnRowsD 23 5 w.heap.size w' v' (rowsAt l p) ∧ Below w.heap.size w w'

theorem compareOk : CompareOk := fun v1 v2 xs ys w h1 h2 u1 u2 => (setsCompare v1 v2 xs ys w h1 h2 u1 u2).mono fun _ _ ⟨he, hw⟩ => ⟨he, 0, hw.symm⟩
theorem sortedOk : SortedOk := fun v xss w h hu => setsSorted v xss w h hu
theorem placeOk : PlaceOk := fun v l w h hu hl _ => setsPlace v l w h hu (by omega)
theorem sortOk : SortOk := fun v l w h hu hl hx => setsSort v l w h hu (by omega) (fun x hm => by have := hx x hm; omega)
theorem u8_lit {xs : List Int} (h : (xs.all fun x => decide (0 ≤ x) && decide (x ≤ 255)) = true) : U8 xs := fun x hx => by
  have := List.all_eq_true.1 h x hx
  simpa using this
theorem ru_lit {xss : List (List Int)} (h : (xss.all fun xs => xs.all fun x => decide (0 ≤ x) && decide (x ≤ 255)) = true) : RU xss := fun xs hx => u8_lit (List.all_eq_true.1 h xs hx)
theorem lit_rows {w : World} {vs : List Value} {xss : List (List Int)} {e : TypeId} {n len : Nat} {cs : Array Value} (hn : n = w.heap.size) (hc : cs = vs.toArray) (hl : len = xss.length) (hv : vs.length = xss.length) (hm : xss.length ≤ 1000000)
    (hr : ∀ i, i < xss.length → Sl .u8 w (vs.getD i undef) (xss.getD i [])) : Rws (w.alloc (.cells cs e)) (.slice (some ⟨n, 0, none⟩) len len) xss := by
  subst hn hc hl
  refine ⟨vs, hv, ⟨_, xss.length, by rw [hv], by omega, by unfold maxLen; omega, .inr ⟨w.heap.size, 0, rfl, fun _ => by simp, fun i hi => ?_⟩⟩, fun i hi => (hr i hi).below (Below.alloc (Below.refl _ _) (Nat.le_refl _) _)⟩
  rw [cell_of_row _ w.heap.size (0 + i) _ e (0, 0) (heap_alloc_new w _)]
  simp only [Nat.zero_add, List.getElem?_toArray, List.getD_eq_getElem?_getD, List.getElem?_eq_getElem hi, Option.getD_some]

instance (l : List (List Int)) (i j : Nat) : Decidable (ilt l i j) := by unfold ilt; exact inferInstance
theorem wk_place3 {p : List Nat} (h : IsPl [[2], [1, 0], [1]] 3 p) : rowsAt [[2], [1, 0], [1]] p = [[1], [1, 0], [2]] := by
  have := place_unique h ⟨by decide, by decide⟩ (q := [2, 1, 0])
  subst this
  rfl
theorem wk_place2 {p : List Nat} (h : IsPl [[2], [1]] 2 p) : castL p = [1, 0] := by
  have := place_unique h ⟨by decide, by decide⟩ (q := [1, 0])
  subst this
  rfl

end Go.Proofs.Ytgdbjbkmkdkhhaa
