/- Several texts in one: Ucd7, Ucd8, Ucd9. -/
import Derived.Test.YtkjhbfcblnbkfaaPk10
import Derived.Test.YtkjhbfcblnbkfaaPk8
import Derived.Test.YtkjhbfcblnbkfaaPk1
import Derived.Lib.SliceRun
import Derived.Test.YtkjhbfcblnbkfaaPk2
/-! Ucd7 -/
namespace Go.Proofs.Ytkjhbfcblnbkfaa
open Go.RowKit

/-- the first place that a rule holds at, or -1 -/
def idxP (p : Rg → Bool) : List Rg → Int → Int
  | [], _ => -1
  | x :: l, k => if p x then k else idxP p l (k + 1)
theorem idxP_drop {p : Rg → Bool} : ∀ {l : List Rg} {k : Nat} {o : Int}, k ≤ l.length → (∀ i, i < k → p (l.getD i noRg) = false) → idxP p l o = idxP p (l.drop k) (o + (k : Int))
  | _, 0, o, _, _ => by simp
  | [], k + 1, _, h, _ => by simp at h
  | r :: l, k + 1, o, h, ha => by
    have h0 := ha 0 (by omega)
    simp only [List.getD_cons_zero] at h0
    rw [idxP, h0, List.drop_succ_cons, show o + ((k + 1 : Nat) : Int) = o + 1 + (k : Int) by omega]
    exact idxP_drop (by simpa using h) fun i hi => by simpa using ha (i + 1) (by omega)
theorem idxP_hit {p : Rg → Bool} {l : List Rg} {k : Nat} (h : k < l.length) (ha : ∀ i, i < k → p (l.getD i noRg) = false) (hk : p (l.getD k noRg) = true) : idxP p l 0 = (k : Int) := by
  rw [idxP_drop (by omega) ha, List.drop_eq_getElem_cons h, idxP]
  have e : l.getD k noRg = l[k] := by rw [List.getD_eq_getElem?_getD, List.getElem?_eq_getElem h]; rfl
  rw [e] at hk
  rw [hk]
  simp
theorem idxP_none {p : Rg → Bool} {l : List Rg} (ha : ∀ i, i < l.length → p (l.getD i noRg) = false) : idxP p l 0 = -1 := by
  rw [idxP_drop (Nat.le_refl _) ha, List.drop_length]
  rfl

theorem grown_trans {w w1 w2 : World} {r : Option Nat} (h : w.grownBy w1 r) (k : w1.grownBy w2 r) : w.grownBy w2 r :=
  ⟨k.os.trans h.os, k.tape.trans h.tape, k.output.trans h.output, Nat.le_trans h.size k.size, fun i hi hn => (k.block i (Nat.lt_of_lt_of_le hi h.size) hn).trans (h.block i hi hn)⟩
theorem grown_below {w w1 : World} (h : Below w.heap.size w w1) (r : Option Nat) : w.grownBy w1 r := ⟨h.os, h.tape, h.output, h.size, fun i hi _ => h.block i hi⟩
theorem grown_set {w : World} (g j : Nat) (v : Value) : w.grownBy (w.setCell ⟨g, j, none⟩ v) (some g) :=
  ⟨rfl, rfl, rfl, (Below.setCell (Below.refl 0 w) (Nat.zero_le _) v).size, fun i _ hn => Below.heap_setCell _ _ _ _ fun e => hn (by rw [e])⟩

end Go.Proofs.Ytkjhbfcblnbkfaa

/-! Ucd8 -/
namespace Go.Proofs.Ytkjhbfcblnbkfaa
open Go.RowKit

theorem gv_put : ∀ {l : List Rg} {i : Nat} (r : Rg), i < l.length → (((gv l).set (i * 3) (.int .i64 r.f)).set (i * 3 + 1) (.int .i64 r.t)).set (i * 3 + 2) (.int .i64 r.v) = gv (l.set i r)
  | [], _, _, h => by simp at h
  | _ :: l, 0, r, _ => by simp [gv]
  | _ :: l, i + 1, r, h => by
    have ih := gv_put (l := l) (i := i) r (by simpa using h)
    rw [gv, show (i + 1) * 3 = i * 3 + 3 by omega, show i * 3 + 3 + 1 = i * 3 + 1 + 3 by omega, show i * 3 + 3 + 2 = i * 3 + 2 + 3 by omega]
    simp only [List.set_cons_succ, ih, gv]
/-- a row is written over -/
theorem OwnG.put {e base g n cap : Nat} {w : World} {l : List Rg} (h : OwnG e base w (.slice (some ⟨g, 0, none⟩) n cap) l) {i : Nat} (hi : i < l.length) (r : Rg) :
    OwnG e base (((w.setCell ⟨g, i * 3, none⟩ (.int .i64 r.f)).setCell ⟨g, i * 3 + 1, none⟩ (.int .i64 r.t)).setCell ⟨g, i * 3 + 2, none⟩ (.int .i64 r.v)) (.slice (some ⟨g, 0, none⟩) n cap) (l.set i r) := by
  obtain ⟨h1, h2⟩ := h
  rcases h2 with ⟨h2, hn⟩ | ⟨g', cap', cur, hv, hb, hg, hnc, hcm, hcs, ht⟩
  · cases h2
  · injection hv with hv hn hc
    injection hv with hv
    injection hv with hv
    subst hv hc
    refine ⟨by rw [gv_len], .inr ⟨g, cap, ((cur.setIfInBounds (i * 3) (.int .i64 r.f)).setIfInBounds (i * 3 + 1) (.int .i64 r.t)).setIfInBounds (i * 3 + 2) (.int .i64 r.v), by rw [List.length_set, hn], hb, ?_, by rw [List.length_set]; exact hnc, hcm, by simpa using hcs, ?_⟩⟩
    · simp [World.setCell, Array.getElem?_modify, hg]
    · rw [← gv_put r hi, ← ht]
      simp only [Array.toList_setIfInBounds, List.length_set, List.take_set]
theorem OwnG.block {e base g n cap : Nat} {w : World} {l : List Rg} (h : OwnG e base w (.slice (some ⟨g, 0, none⟩) n cap) l) : n = l.length ∧ base ≤ g ∧ n ≤ cap ∧ cap ≤ maxLen ∧ ∃ cur, w.heap[g]? = some (.cells cur e) ∧ cur.size = cap * 3 ∧ cur.toList.take (l.length * 3) = gv l := by
  obtain ⟨h1, h2⟩ := h
  rcases h2 with ⟨h2, hn⟩ | ⟨g', cap', cur, hv, hb, hg, hnc, hcm, hcs, ht⟩
  · cases h2
  · injection hv with hv hn hc
    injection hv with hv
    injection hv with hv
    subst hv hc
    exact ⟨hn, hb, by omega, hcm, cur, hg, hcs, ht⟩
theorem gv_take : ∀ (l : List Rg) (i : Nat), (gv l).take (i * 3) = gv (l.take i)
  | [], i => by simp [gv]
  | _ :: l, 0 => by simp [gv]
  | _ :: l, i + 1 => by
    rw [show (i + 1) * 3 = i * 3 + 1 + 1 + 1 by omega, gv, List.take_succ_cons, List.take_succ_cons, List.take_succ_cons, gv_take l i, List.take_succ_cons, gv]
/-- cells behind a place are written over -/
theorem setCells_heap (g : Nat) (t : TypeId) : ∀ (vs : List Value) (o : Nat) (w : World) (cur : Array Value), w.heap[g]? = some (.cells cur t) →
    ∃ cur', (w.setCells g o vs).heap[g]? = some (.cells cur' t) ∧ cur'.size = cur.size ∧ cur'.toList.take o = cur.toList.take o ∧ w.grownBy (w.setCells g o vs) (some g)
  | [], o, w, cur, h => ⟨cur, h, rfl, rfl, World.grownBy.refl _ _⟩
  | v :: vs, o, w, cur, h => by
    obtain ⟨cur', h1, h2, h3, h4⟩ := setCells_heap g t vs (o + 1) (w.setCell ⟨g, o, none⟩ v) (cur.setIfInBounds o v) (by simp [World.setCell, Array.getElem?_modify, h])
    refine ⟨cur', h1, by simpa using h2, ?_, grown_trans (grown_set g o v) h4⟩
    have := congrArg (List.take o) h3
    rw [List.take_take, Nat.min_eq_left (by omega), List.take_take, Nat.min_eq_left (by omega), Array.toList_setIfInBounds, List.take_set, List.set_eq_of_length_le (by simp; omega)] at this
    exact this
/-- s[i:], s[:i] of rows of three -/
theorem cut3 {P : Program} (w : World) (t e : TypeId) (ht : P.underlying t = some (.slice e)) {i : TypeInfo} (hi : P.info? e = some i) (hs : i.size = 3) (g n cap k : Nat) (hk : k < n) (hn : n ≤ cap) :
    ((Instr.sliceAt t (.slice (some ⟨g, 0, none⟩) n cap) (some (.int .i64 (k : Int))) none none).run P w = .ok (.slice (some ⟨g, k * 3, none⟩) (n - k) (cap - k)) w ∧ (Instr.slice t (.slice (some ⟨g, 0, none⟩) n cap) (some (.int .i64 (k : Int))) none none).run P w = .ok (.slice (some ⟨g, k * 3, none⟩) (n - k) (cap - k)) w) ∧
    (Instr.sliceAt t (.slice (some ⟨g, 0, none⟩) n cap) none (some (.int .i64 (k : Int))) none).run P w = .ok (.slice (some ⟨g, 0, none⟩) k cap) w ∧ (Instr.slice t (.slice (some ⟨g, 0, none⟩) n cap) none (some (.int .i64 (k : Int))) none).run P w = .ok (.slice (some ⟨g, 0, none⟩) k cap) w := by
  have e1 : (0 : Int) ≤ (k : Int) ∧ (k : Int) ≤ (n : Int) := by omega
  have e5 : ¬ cap = k := by omega
  refine ⟨⟨?_, ?_⟩, ?_, ?_⟩ <;> simp [Instr.sliceAt, Instr.slice, run_underlying ht, Instr.sliceBounds, Instr.sliceBound, asIntOf, sizeOf, typeInfo, hi, hs, e1, e5, Addr.add]
  · rw [if_pos (by omega)]
    by_cases h0 : k * 3 = 0 <;> simp [h0]
  · rw [if_pos (by omega)]
    by_cases h0 : k * 3 = 0 <;> simp [h0]
  · intro hx; omega
  · intro hx; omega
def zs3 (n : Nat) : List Value := (Builtin.zeroCells #[Value.int .i64 0, .int .i64 0, .int .i64 0] n).toList
/-- clear(s[i:]) -/
theorem clear3 {P : Program} (w : World) (t e ty : TypeId) (ht : P.underlying t = some (.slice e)) (hv : ∀ w, (zeroValue e).run P w = .ok (.agg #[.int .i64 0, .int .i64 0, .int .i64 0]) w) (g o n c cap : Nat) (cur : Array Value) (hg : w.heap[g]? = some (.cells cur e)) (hc : cur.size = cap * 3) (hn : o + (n + 1) * 3 ≤ cap * 3) :
    (Builtin.clear_ #[t] ty #[.slice (some ⟨g, o, none⟩) (n + 1) c]).run P w = .ok (.tuple #[]) (w.setCells g o (zs3 (n + 1))) := by
  have hl : (Builtin.zeroCells #[Value.int .i64 0, .int .i64 0, .int .i64 0] (n + 1)).toList.length = (n + 1) * 3 := by simp [Builtin.zeroCells]
  have hz : ∀ v ∈ (Builtin.zeroCells #[Value.int .i64 0, .int .i64 0, .int .i64 0] (n + 1)).toList, v.oneCell' = true := by
    intro v hv
    simp only [Builtin.zeroCells, Array.toList_map, List.mem_map] at hv
    obtain ⟨i, _, rfl⟩ := hv
    have : i % 3 < 3 := Nat.mod_lt _ (by omega)
    show (#[Value.int .i64 0, .int .i64 0, .int .i64 0][i % 3]!).oneCell' = true
    match i % 3, this with
    | 0, _ => rfl
    | 1, _ => rfl
    | 2, _ => rfl
  have hst := run_storeCells_cells (P := P) g o (Builtin.zeroCells #[Value.int .i64 0, .int .i64 0, .int .i64 0] (n + 1)).toList 0 w (fun j hj => by
    rw [hl] at hj
    rw [cell_of_row w g (o + 0 + j) cur e (0, 0) hg, Array.getElem?_eq_getElem (by omega)]
    rfl) (fun j _ => frozen_of_row w g _ cur e hg) hz
  simp only [Nat.add_zero] at hst
  have hcz : (Value.agg #[Value.int .i64 0, .int .i64 0, .int .i64 0]).cells = #[Value.int .i64 0, .int .i64 0, .int .i64 0] := rfl
  simp [Builtin.clear_, run_underlying ht, hv, hcz, hst, zs3]
theorem OwnG.at {e base g n cap : Nat} {w : World} {l : List Rg} (h : OwnG e base w (.slice (some ⟨g, 0, none⟩) n cap) l) {i : Nat} (hi : i < l.length) :
    w.cell? ⟨g, i * 3, none⟩ = some (.int .i64 (l.getD i noRg).f) ∧ w.cell? ⟨g, i * 3 + 1, none⟩ = some (.int .i64 (l.getD i noRg).t) ∧ w.cell? ⟨g, i * 3 + 2, none⟩ = some (.int .i64 (l.getD i noRg).v) ∧
    w.frozen? ⟨g, i * 3, none⟩ = false ∧ w.frozen? ⟨g, i * 3 + 1, none⟩ = false ∧ w.frozen? ⟨g, i * 3 + 2, none⟩ = false := by
  obtain ⟨_, _, _, _, cur, hg, _, ht⟩ := h.block
  have key : ∀ j, j < l.length * 3 → w.cell? ⟨g, j, none⟩ = (gv l)[j]? := fun j hj => by
    rw [cell_of_row w g j cur e (0, 0) hg, ← ht, List.getElem?_take, if_pos hj]
    simp
  obtain ⟨a1, a2, a3⟩ := gv_at hi
  exact ⟨(key _ (by omega)).trans a1, (key _ (by omega)).trans a2, (key _ (by omega)).trans a3, frozen_of_row w g _ cur e hg, frozen_of_row w g _ cur e hg, frozen_of_row w g _ cur e hg⟩
theorem idxP_cases (p : Rg → Bool) (l : List Rg) : (idxP p l 0 = -1 ∧ l.filter (fun r => !p r) = l) ∨
    ∃ k, k < l.length ∧ idxP p l 0 = (k : Int) ∧ l.take k = (l.take (k + 1)).filter (fun r => !p r) := by
  by_cases h : ∀ i, i < l.length → p (l.getD i noRg) = false
  · refine .inl ⟨idxP_none h, List.filter_eq_self.2 fun r hr => ?_⟩
    obtain ⟨i, hi, rfl⟩ := List.getElem_of_mem hr
    have := h i hi
    rw [List.getD_eq_getElem?_getD, List.getElem?_eq_getElem hi] at this
    simpa using this
  · obtain ⟨k, hk, hp, hall⟩ : ∃ k, k < l.length ∧ p (l.getD k noRg) = true ∧ ∀ i, i < k → p (l.getD i noRg) = false := by
      have : ∀ n, (∃ i, i < n ∧ i < l.length ∧ p (l.getD i noRg) = true) → ∃ k, k < l.length ∧ p (l.getD k noRg) = true ∧ ∀ i, i < k → p (l.getD i noRg) = false := fun n => by
        induction n with
        | zero => rintro ⟨i, hi, _⟩; omega
        | succ n ih =>
          rintro ⟨i, hi, hl, hp⟩
          by_cases hx : ∃ i, i < n ∧ i < l.length ∧ p (l.getD i noRg) = true
          · exact ih hx
          · refine ⟨i, hl, hp, fun j hj => ?_⟩
            cases hq : p (l.getD j noRg) with
            | false => rfl
            | true => exact absurd ⟨j, by omega, by omega, hq⟩ hx
      refine this l.length ?_
      apply Classical.byContradiction
      intro hn
      apply h
      intro i hi
      cases hq : p (l.getD i noRg) with
      | false => rfl
      | true => exact absurd ⟨i, hi, hi, hq⟩ hn
    refine .inr ⟨k, hk, idxP_hit hk hall hp, ?_⟩
    rw [List.take_succ_eq_append_getElem hk, List.filter_append]
    have e : l.getD k noRg = l[k] := by rw [List.getD_eq_getElem?_getD, List.getElem?_eq_getElem hk]; rfl
    rw [e] at hp
    rw [List.filter_cons_of_neg (by simp [hp]), List.filter_nil, List.append_nil]
    refine (List.filter_eq_self.2 fun r hr => ?_).symm
    obtain ⟨i, hi, rfl⟩ := List.getElem_of_mem hr
    have hi' : i < k := by simp at hi; omega
    have := hall i hi'
    rw [List.getD_eq_getElem?_getD, List.getElem?_eq_getElem (by omega)] at this
    simpa using this
/-- the state of the pass: what stays lies ahead of place i; from j on nothing has changed -/
def DelSt (p : Rg → Bool) (l m : List Rg) (i j : Nat) : Prop := m.length = l.length ∧ m.take i = (l.take j).filter (fun r => !p r) ∧ m.drop j = l.drop j
theorem DelSt.row {p : Rg → Bool} {l m : List Rg} {i j : Nat} (h : DelSt p l m i j) : m.getD j noRg = l.getD j noRg := by
  have h1 := congrArg (fun x => x.getD 0 noRg) h.2.2
  simpa [List.getD_eq_getElem?_getD, List.getElem?_drop] using h1
theorem DelSt.gone {p : Rg → Bool} {l m : List Rg} {i j : Nat} (h : DelSt p l m i j) (hj : j < l.length) (hp : p (l.getD j noRg) = true) : DelSt p l m i (j + 1) := by
  have e : l.getD j noRg = l[j] := by rw [List.getD_eq_getElem?_getD, List.getElem?_eq_getElem hj]; rfl
  rw [e] at hp
  refine ⟨h.1, ?_, ?_⟩
  · rw [h.2.1, List.take_succ_eq_append_getElem hj, List.filter_append, List.filter_cons_of_neg (by simp [hp]), List.filter_nil, List.append_nil]
  · have := congrArg (List.drop 1) h.2.2
    simpa [List.drop_drop, Nat.add_comm] using this
theorem DelSt.stays {p : Rg → Bool} {l m : List Rg} {i j : Nat} (h : DelSt p l m i j) (hij : i < j) (hj : j < l.length) (hp : p (l.getD j noRg) = false) : DelSt p l (m.set i (l.getD j noRg)) (i + 1) (j + 1) := by
  have e : l.getD j noRg = l[j] := by rw [List.getD_eq_getElem?_getD, List.getElem?_eq_getElem hj]; rfl
  rw [e] at hp ⊢
  have hl := h.1
  refine ⟨by rw [List.length_set]; exact h.1, ?_, ?_⟩
  · rw [List.take_succ_eq_append_getElem hj, List.filter_append, List.filter_cons_of_pos (by simp [hp]), List.filter_nil, ← h.2.1]
    rw [List.take_succ_eq_append_getElem (by rw [List.length_set]; omega), List.getElem_set_self, List.take_set_of_le (Nat.le_refl _)]
  · rw [List.drop_set_of_lt (by omega)]
    have := congrArg (List.drop 1) h.2.2
    simpa [List.drop_drop, Nat.add_comm] using this
theorem DelSt.done {p : Rg → Bool} {l m : List Rg} {i : Nat} (h : DelSt p l m i l.length) : m.take i = l.filter (fun r => !p r) := by
  rw [h.2.1, List.take_length]
end Go.Proofs.Ytkjhbfcblnbkfaa

/-! Ucd9 -/
namespace Go.Proofs.Ytkjhbfcblnbkfaa
open Go.RowKit

end Go.Proofs.Ytkjhbfcblnbkfaa
