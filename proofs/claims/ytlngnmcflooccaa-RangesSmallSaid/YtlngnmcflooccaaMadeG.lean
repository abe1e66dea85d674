/- make([]api.Range, n), and a range laid into one of its places. No conditions. -/
import Derived.Test.YtlngnmcflooccaaRefRng5
namespace Go.Proofs.Ytlngnmcflooccaa
open Go.RowKit

theorem gv_zero : ∀ n : Nat, gv (List.replicate n noRg) = List.replicate (n * 3) (.int .i64 0)
  | 0 => rfl
  | n + 1 => by
    rw [List.replicate_succ, gv, gv_zero n, show (n + 1) * 3 = n * 3 + 1 + 1 + 1 by omega]
    rfl
theorem make_ranges (w : World) (n : Nat) (hn : n ≤ 1000000) : (Instr.makeSlice 22 (.int .i64 n) (.int .i64 n)).run Try.prog w = .ok (.slice (some ⟨w.heap.size, 0, none⟩) n n) (w.alloc (.cells (gv (List.replicate n noRg)).toArray 43)) := by
  obtain ⟨i, hi, hz0, hz1, hz2⟩ := info_parts Try.infoRg
  have := run_make (P := Try.prog) w 22 43 i (.agg #[.int .i64 0, .int .i64 0, .int .i64 0]) Try.underlying22 hi hz0 .i64 .i64 n n (by omega) (by omega) (by rw [hz2]; omega) (by omega)
  rw [this, hz1]
  have e : madeCells (Value.agg #[.int .i64 0, .int .i64 0, .int .i64 0]).cells (((n : Int)).toNat * 3) = (gv (List.replicate n noRg)).toArray := by
    rw [gv_zero]
    apply Array.ext
    · simp [madeCells]
    · intro j h1 h2
      have h3 : j % 3 < 3 := Nat.mod_lt _ (by omega)
      simp only [madeCells, Value.cells, Array.getElem_map, Array.getElem_range, List.getElem_toArray, List.getElem_replicate]
      match j % 3, h3 with
      | 0, _ => rfl
      | 1, _ => rfl
      | 2, _ => rfl
  rw [e]
  simp
theorem made_ownG (w : World) (base n : Nat) (hb : base ≤ w.heap.size) (hn : n ≤ 1000000) : OwnG 43 base (w.alloc (.cells (gv (List.replicate n noRg)).toArray 43)) (.slice (some ⟨w.heap.size, 0, none⟩) n n) (List.replicate n noRg) := by
  have := World.ownsRow_lit (base := base) (e := 43) (size := 3) w (gv (List.replicate n noRg)).toArray n hb (by unfold maxLen; omega) (by simp [gv_len])
  unfold OwnG
  rw [List.length_replicate]
  simpa using this
theorem gv_put : ∀ {l : List Rg} {i : Nat} (a b c : Int), i < l.length → (((gv l).set (i * 3) (.int .i64 a)).set (i * 3 + 1) (.int .i64 b)).set (i * 3 + 2) (.int .i64 c) = gv (l.set i ⟨a, b, c⟩)
  | [], _, _, _, _, h => by simp at h
  | r :: l, 0, a, b, c, _ => by simp [gv]
  | r :: l, i + 1, a, b, c, h => by
    have ih := gv_put (l := l) (i := i) a b c (by simpa using h)
    rw [gv, show (i + 1) * 3 + 1 = i * 3 + 1 + 3 by omega, show (i + 1) * 3 + 2 = i * 3 + 2 + 3 by omega, show (i + 1) * 3 = i * 3 + 3 by omega]
    simp only [List.set_cons_succ, ih, gv]
/-- one of the places is written over whole -/
theorem OwnG.put {e base : Nat} {w : World} {g n cap : Nat} {l : List Rg} (h : OwnG e base w (.slice (some ⟨g, 0, none⟩) n cap) l) {i : Nat} (hi : i < l.length) (a b c : Int) :
    OwnG e base (((w.setCell ⟨g, i * 3, none⟩ (.int .i64 a)).setCell ⟨g, i * 3 + 1, none⟩ (.int .i64 b)).setCell ⟨g, i * 3 + 2, none⟩ (.int .i64 c)) (.slice (some ⟨g, 0, none⟩) n cap) (l.set i ⟨a, b, c⟩) := by
  obtain ⟨h1, h2⟩ := h
  rcases h2 with ⟨hv, hn⟩ | ⟨g', cap', cur, hv, hb, hg, hnc, hcm, hcs, ht⟩
  · simp at hv
  · injection hv with hv hv2 hv3
    injection hv with hv
    injection hv with hv
    subst hv hv3
    refine ⟨by rw [gv_len], .inr ⟨g, cap, ((cur.setIfInBounds (i * 3) (.int .i64 a)).setIfInBounds (i * 3 + 1) (.int .i64 b)).setIfInBounds (i * 3 + 2) (.int .i64 c), by rw [List.length_set, hv2], hb, ?_, by rw [List.length_set]; exact hnc, hcm, by simpa using hcs, ?_⟩⟩
    · show (((w.setCell ⟨g, i * 3, none⟩ _).setCell ⟨g, i * 3 + 1, none⟩ _).setCell ⟨g, i * 3 + 2, none⟩ _).heap[g]? = _
      simp [World.setCell, Array.getElem?_modify, hg]
    · rw [← gv_put a b c hi, ← ht, Array.toList_setIfInBounds, Array.toList_setIfInBounds, Array.toList_setIfInBounds, List.length_set, List.take_set, List.take_set, List.take_set]
theorem OwnG.lt {e base : Nat} {w : World} {g n cap : Nat} {l : List Rg} (h : OwnG e base w (.slice (some ⟨g, 0, none⟩) n cap) l) : base ≤ g ∧ g < w.heap.size := World.ownsRow.lt h g rfl
theorem OwnG.cellsAt {e base : Nat} {w : World} {g n cap : Nat} {l : List Rg} (h : OwnG e base w (.slice (some ⟨g, 0, none⟩) n cap) l) {i : Nat} (hi : i < l.length) :
    w.cell? ⟨g, i * 3, none⟩ = some (.int .i64 (l.getD i noRg).f) ∧ w.cell? ⟨g, i * 3 + 1, none⟩ = some (.int .i64 (l.getD i noRg).t) ∧ w.cell? ⟨g, i * 3 + 2, none⟩ = some (.int .i64 (l.getD i noRg).v) := by
  obtain ⟨h1, h2⟩ := h
  rcases h2 with ⟨hv, hn⟩ | ⟨g', cap', cur, hv, hb, hg, hnc, hcm, hcs, ht⟩
  · simp at hv
  · injection hv with hv hv2 hv3
    injection hv with hv
    injection hv with hv
    subst hv
    have key : ∀ j, j < l.length * 3 → w.cell? ⟨g, j, none⟩ = (gv l)[j]? := fun j hj => by
      rw [cell_of_row w g j cur e (0, 0) hg, ← ht, List.getElem?_take, if_pos hj]
      simp
    obtain ⟨a1, a2, a3⟩ := gv_at hi
    exact ⟨(key _ (by omega)).trans a1, (key _ (by omega)).trans a2, (key _ (by omega)).trans a3⟩
theorem OwnG.ice {e base : Nat} {w : World} {g n cap : Nat} {l : List Rg} (h : OwnG e base w (.slice (some ⟨g, 0, none⟩) n cap) l) (j : Nat) : w.frozen? ⟨g, j, none⟩ = false := by
  obtain ⟨h1, h2⟩ := h
  rcases h2 with ⟨hv, hn⟩ | ⟨g', cap', cur, hv, hb, hg, hnc, hcm, hcs, ht⟩
  · simp at hv
  · injection hv with hv hv2 hv3
    injection hv with hv
    injection hv with hv
    subst hv
    exact frozen_of_row w g j cur e hg
/-- the ranges copied so far -/
theorem copied_set {l m : List Rg} {k : Nat} (hk : k < l.length) (hm : m = l.take k ++ List.replicate (l.length - k) noRg) : m.set k (l.getD k noRg) = l.take (k + 1) ++ List.replicate (l.length - (k + 1)) noRg := by
  subst hm
  have hlt : (l.take k).length = k := by rw [List.length_take]; omega
  rw [List.set_append, if_neg (by omega), hlt, Nat.sub_self, show l.length - k = l.length - (k + 1) + 1 by omega, List.replicate_succ, List.set_cons_zero, take_rg hk, List.append_assoc]
  rfl
end Go.Proofs.Ytlngnmcflooccaa
