/- Ranges that the call itself made, one behind the other. No conditions. -/
import Derived.Test.YtpdcmfnemfopjaaRngPack
import Derived.Deep.AppendLies
namespace Go.Proofs.Ytpdcmfnemfopjaa
open Go.RowKit

/-- ranges as cells -/
def gv : List Rg → List Value
  | [] => []
  | r :: l => .int .i64 r.f :: .int .i64 r.t :: .int .i64 r.v :: gv l
theorem gv_len : ∀ l : List Rg, (gv l).length = l.length * 3
  | [] => rfl
  | r :: l => by rw [gv, List.length_cons, List.length_cons, List.length_cons, gv_len l, List.length_cons]; omega
theorem gv_app : ∀ l m : List Rg, gv (l ++ m) = gv l ++ gv m
  | [], _ => rfl
  | r :: l, m => by rw [List.cons_append, gv, gv, gv_app l m]; rfl
theorem gv_at : ∀ {l : List Rg} {i : Nat}, i < l.length → (gv l)[i * 3]? = some (.int .i64 (l.getD i noRg).f) ∧ (gv l)[i * 3 + 1]? = some (.int .i64 (l.getD i noRg).t) ∧ (gv l)[i * 3 + 2]? = some (.int .i64 (l.getD i noRg).v)
  | [], _, h => by simp at h
  | r :: l, 0, _ => by simp [gv]
  | r :: l, i + 1, h => by
    have ih := gv_at (l := l) (i := i) (by simpa using h)
    rw [gv, show (i + 1) * 3 = i * 3 + 3 by omega]
    simpa using ih
theorem gv_set : ∀ {l : List Rg} {i : Nat} (c : Int), i < l.length → (gv l).set (i * 3 + 1) (.int .i64 c) = gv (l.set i ⟨(l.getD i noRg).f, c, (l.getD i noRg).v⟩)
  | [], _, _, h => by simp at h
  | r :: l, 0, c, _ => by simp [gv]
  | r :: l, i + 1, c, h => by
    have ih := gv_set (l := l) (i := i) c (by simpa using h)
    rw [gv, show (i + 1) * 3 + 1 = i * 3 + 1 + 3 by omega]
    simp only [List.set_cons_succ, List.getD_cons_succ, ih, gv]
theorem gv_oneCell : ∀ (l : List Rg), ∀ u ∈ gv l, u.oneCell' = true
  | [], _, h => by cases h
  | r :: l, u, h => by
    rw [gv] at h
    simp only [List.mem_cons] at h
    rcases h with rfl | rfl | rfl | h
    · rfl
    · rfl
    · rfl
    · exact gv_oneCell l u h

/-- A slice of ranges of the call's own. -/
def OwnG (e base : Nat) (w : World) (v : Value) (l : List Rg) : Prop := w.ownsRow base e 3 v l.length (gv l)
theorem OwnG.nil (e base : Nat) (w : World) : OwnG e base w (.slice none 0 0) [] := World.ownsRow_nil _ _ _ _
theorem OwnG.drewN {e base : Nat} {w : World} {v : Value} {l : List Rg} (h : OwnG e base w v l) (n : Nat) : OwnG e base (w.drewN n) v l := h
theorem OwnG.sg {e base : Nat} {w : World} {v : Value} {l : List Rg} (h : OwnG e base w v l) : Sg w v l := by
  obtain ⟨h1, h2⟩ := h
  rcases h2 with ⟨rfl, hn⟩ | ⟨g, cap, cur, rfl, hb, hg, hnc, hcm, hcs, ht⟩
  · exact ⟨none, 0, by rw [hn], by omega, by unfold maxLen; omega, .inl rfl⟩
  · have key : ∀ j, j < l.length * 3 → w.cell? ⟨g, 0 + j, none⟩ = (gv l)[j]? := fun j hj => by
      rw [cell_of_row w g (0 + j) cur e (0, 0) hg, ← ht, List.getElem?_take, if_pos hj]
      simp
    refine ⟨some ⟨g, 0, none⟩, cap, rfl, hnc, hcm, .inr ⟨g, 0, rfl, fun _ => (Array.getElem?_eq_some_iff.1 hg).1, fun i hi => ?_⟩⟩
    obtain ⟨a1, a2, a3⟩ := gv_at hi
    exact ⟨(key (i * 3) (by omega)).trans a1, (key (i * 3 + 1) (by omega)).trans a2, (key (i * 3 + 2) (by omega)).trans a3⟩
theorem OwnG.below {e base : Nat} {w w' : World} {v : Value} {l : List Rg} (h : OwnG e base w v l) (hb : Below w.heap.size w w') : OwnG e base w' v l := by
  obtain ⟨h1, h2⟩ := h
  refine ⟨h1, ?_⟩
  rcases h2 with h2 | ⟨g, cap, cur, hv, hg, hh, r⟩
  · exact .inl h2
  · exact .inr ⟨g, cap, cur, hv, hg, by rw [hb.block g (Array.getElem?_eq_some_iff.1 hh).1]; exact hh, r⟩
/-- the last one's end is written over -/
theorem OwnG.last {e base : Nat} {w : World} {v : Value} {l : List Rg} (h : OwnG e base w v l) {i : Nat} (hi : i < l.length) (c : Int) : ∃ g cap, v = .slice (some ⟨g, 0, none⟩) l.length cap ∧ base ≤ g ∧ w.frozen? ⟨g, i * 3 + 1, none⟩ = false ∧
    OwnG e base (w.setCell ⟨g, i * 3 + 1, none⟩ (.int .i64 c)) v (l.set i ⟨(l.getD i noRg).f, c, (l.getD i noRg).v⟩) := by
  obtain ⟨h1, h2⟩ := h
  rcases h2 with ⟨rfl, hn⟩ | ⟨g, cap, cur, rfl, hb, hg, hnc, hcm, hcs, ht⟩
  · omega
  · refine ⟨g, cap, rfl, hb, frozen_of_row w g _ cur e hg, ?_⟩
    refine ⟨by rw [gv_len], .inr ⟨g, cap, cur.setIfInBounds (i * 3 + 1) (.int .i64 c), by rw [List.length_set], hb, ?_, by rw [List.length_set]; exact hnc, hcm, by simpa using hcs, ?_⟩⟩
    · show (w.setCell ⟨g, i * 3 + 1, none⟩ (.int .i64 c)).heap[g]? = _
      simp [World.setCell, Array.getElem?_modify, hg]
    · rw [← gv_set c hi, ← ht, Array.toList_setIfInBounds, List.length_set, List.take_set]
theorem OwnG.mono {e base base' : Nat} {w : World} {v : Value} {l : List Rg} (h : OwnG e base w v l) (hb : base' ≤ base) : OwnG e base' w v l := by
  obtain ⟨h1, h2⟩ := h
  refine ⟨h1, ?_⟩
  rcases h2 with h2 | ⟨g, cap, cur, hv, hg, r⟩
  · exact .inl h2
  · exact .inr ⟨g, cap, cur, hv, by omega, r⟩
theorem OwnG.form {e base : Nat} {w : World} {v : Value} {l : List Rg} (h : OwnG e base w v l) : ∃ a c, v = .slice a l.length c := h.sg.form
/-- where it lies, what its cells hold -/
theorem OwnG.open_ {e base : Nat} {w : World} {v : Value} {l : List Rg} (h : OwnG e base w v l) {i : Nat} (hi : i < l.length) : ∃ g cap, v = .slice (some ⟨g, 0, none⟩) l.length cap ∧ base ≤ g ∧ g < w.heap.size ∧
    w.cell? ⟨g, i * 3 + 1, none⟩ = some (.int .i64 (l.getD i noRg).t) ∧ w.cell? ⟨g, i * 3 + 2, none⟩ = some (.int .i64 (l.getD i noRg).v) ∧ w.frozen? ⟨g, i * 3 + 1, none⟩ = false ∧
    ∀ c, OwnG e base (w.setCell ⟨g, i * 3 + 1, none⟩ (.int .i64 c)) v (l.set i ⟨(l.getD i noRg).f, c, (l.getD i noRg).v⟩) := by
  have hl := fun c => h.last hi c
  obtain ⟨h1, h2⟩ := h
  rcases h2 with ⟨rfl, hn⟩ | ⟨g, cap, cur, rfl, hb, hg, hnc, hcm, hcs, ht⟩
  · omega
  · have key : ∀ j, j < l.length * 3 → w.cell? ⟨g, j, none⟩ = (gv l)[j]? := fun j hj => by
      rw [cell_of_row w g j cur e (0, 0) hg, ← ht, List.getElem?_take, if_pos hj]
      simp
    obtain ⟨_, a2, a3⟩ := gv_at hi
    refine ⟨g, cap, rfl, hb, (Array.getElem?_eq_some_iff.1 hg).1, (key (i * 3 + 1) (by omega)).trans a2, (key (i * 3 + 2) (by omega)).trans a3, frozen_of_row w g _ cur e hg, fun c => ?_⟩
    obtain ⟨g', cap', he, _, _, hown⟩ := hl c
    injection he with he _ _
    injection he with he
    injection he with he
    subst he
    exact hown
/-- append(dst, r) -/
theorem wpList_appG {P : Program} (w : World) {ops : Array Oper} {rest : List Oper} {o : Oper} {a : Act} {Q : Exit → Act → World → Prop} (hgd : o.guard = none) (s x : Operand) (t : TypeId)
    (ho : o.op = .call { callee := .builtin .append, args := #[s, x], argTypes := #[t, t] })
    (base e : Nat) (bytes : Nat) (i : TypeInfo) (z : Value) (ht : P.underlying t = some (.slice e)) (hi : P.info? e = some i) (hz : i.zero = some z) (hsize : i.size = 3) (hby : i.bytes = bytes) (hzs : z.cells.size = 3)
    (v : Value) (l : List Rg) (hs : a.eval s = v) (hown : OwnG e base w v l) (b : Nat) (r : Rg) (hx : a.eval x = .slice (some ⟨b, 0, none⟩) 1 1)
    (hc : w.cell? ⟨b, 0, none⟩ = some (.int .i64 r.f) ∧ w.cell? ⟨b, 1, none⟩ = some (.int .i64 r.t) ∧ w.cell? ⟨b, 2, none⟩ = some (.int .i64 r.v))
    (h63 : l.length + 1 ≤ maxLen) (hbytes : (l.length + 1) * bytes ≤ 140737488355328) (hbase : base ≤ w.heap.size)
    (h : ∀ g cap w', OwnG e base w' (.slice (some ⟨g, 0, none⟩) (l.length + 1) cap) (l ++ [r]) → Below base w w' → wpList P ops Q rest (a.put o.dst (.slice (some ⟨g, 0, none⟩) (l.length + 1) cap)) w') : wpList P ops Q (o :: rest) a w := by
  refine wpList_append_lies w hgd s x t ho base e i z 3 bytes ht hi hz hsize hby hzs (by decide) v l.length (gv l) hs hown ⟨b, 0, none⟩ 1 1 (gv [r]) hx (by simp [gv]) ?_ (gv_oneCell [r]) (by decide) h63 hbytes hbase w.heap.size rfl ?_
  · intro j u hj
    match j, hj with
    | 0, hj => simp [gv] at hj; subst hj; simpa [Addr.add] using hc.1
    | 1, hj => simp [gv] at hj; subst hj; simpa [Addr.add] using hc.2.1
    | 2, hj => simp [gv] at hj; subst hj; simpa [Addr.add] using hc.2.2
    | j + 3, hj => simp [gv] at hj
  · intro g cap w' hown' hg _ _
    exact h g cap w' (by unfold OwnG; rw [gv_app, List.length_append]; exact hown') ((Below.refl base w).grown hg hbase (fun k hk => (World.ownsRow.lt hown k hk).1))
end Go.Proofs.Ytpdcmfnemfopjaa
