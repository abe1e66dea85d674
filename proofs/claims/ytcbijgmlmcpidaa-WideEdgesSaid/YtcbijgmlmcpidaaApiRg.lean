/- Contracts of package api's tables of ranges: each call lays the table anew. -/
import Derived.Test.YtcbijgmlmcpidaaTabs6
import Derived.Test.YtcbijgmlmcpidaaKeepG
import Derived.Great.Walk
namespace Go.Proofs.Ytcbijgmlmcpidaa
open Go.RowKit
open Go.Great (wp_anyFrame)

/-- a block laid as the cells of ranges reads as these ranges -/
theorem sg_cells {w : World} {l : List Rg} {e : TypeId} {n k : Nat} {cs : Array Value} (hn : n = w.heap.size) (hk : k = l.length) (hc : cs.toList = l.flatMap fun r => [.int .i64 r.f, .int .i64 r.t, .int .i64 r.v]) (hm : l.length ≤ 1000000) :
    Sg (w.alloc (.cells cs e)) (.slice (some ⟨n, 0, none⟩) k k) l := by
  subst hn hk
  refine ⟨_, l.length, rfl, Nat.le_refl _, by unfold maxLen; omega, .inr ⟨w.heap.size, 0, rfl, fun _ => by simp, fun i hi => ?_⟩⟩
  have key : ∀ (l : List Rg) (i : Nat), i < l.length → ∀ j, j < 3 → (l.flatMap fun r : Rg => [Value.int .i64 r.f, .int .i64 r.t, .int .i64 r.v])[i * 3 + j]? = [Value.int .i64 (l.getD i noRg).f, .int .i64 (l.getD i noRg).t, .int .i64 (l.getD i noRg).v][j]? := fun l => by
    induction l with
    | nil => intro i hi; simp at hi
    | cons r l ih =>
      intro i hi j hj
      match i with
      | 0 =>
        match j, hj with
        | 0, _ => rfl
        | 1, _ => rfl
        | 2, _ => rfl
      | i + 1 =>
        have := ih i (by simpa using hi) j hj
        rw [List.flatMap_cons, show (i + 1) * 3 + j = i * 3 + j + 1 + 1 + 1 by omega]
        simpa using this
  have hat : ∀ j, (w.alloc (.cells cs e)).cell? ⟨w.heap.size, j, none⟩ = cs.toList[j]? := fun j => by
    rw [cell_of_row _ w.heap.size j cs e (0, 0) (heap_alloc_new w _)]
    simp
  have k0 := key l i hi 0 (by omega)
  have k1 := key l i hi 1 (by omega)
  have k2 := key l i hi 2 (by omega)
  simp only [Nat.zero_add]
  refine ⟨?_, ?_, ?_⟩
  · rw [hat, hc]; exact k0
  · rw [hat, hc]; exact k1
  · rw [hat, hc]; exact k2

/-- a table's numbers as the library's law on such literals takes them -/
def tri (l : List Rg) : List Lib.Rg := l.map fun r => (r.f.toNat, r.t.toNat, r.v.toNat)

theorem tri_cells : ∀ {l : List Rg}, (l.all fun r => decide (0 ≤ r.f) && (decide (0 ≤ r.t) && decide (0 ≤ r.v))) = true → (Lib.rgCells .i64 (tri l).toArray).toList = l.flatMap fun r => [.int .i64 r.f, .int .i64 r.t, .int .i64 r.v]
  | [], _ => rfl
  | r :: l, h => by
    simp only [List.all_cons, Bool.and_eq_true, decide_eq_true_eq] at h
    have ih := tri_cells (l := l) h.2
    simp only [Lib.rgCells, tri, List.map_cons, List.flatMap_cons, Lib.cells3, Int.toNat_of_nonneg h.1.1, Int.toNat_of_nonneg h.1.2.1, Int.toNat_of_nonneg h.1.2.2] at ih ⊢
    rw [ih]

end Go.Proofs.Ytcbijgmlmcpidaa
