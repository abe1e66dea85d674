/- Several texts in one: OwnG, Ix, Ucd7, Res6, Ucd2, Ucd8, Runes. -/
import Derived.Test.YtialgjbponlipaaPk9
import Derived.Deep.AppendLies
import Derived.Test.YtialgjbponlipaaPk1
import Derived.Test.YtialgjbponlipaaPk3
import Derived.Test.YtialgjbponlipaaPk2
import Derived.Lib.SliceRun
import Derived.Lib.OthersKept
/-! OwnG -/
namespace Go.Proofs.Ytialgjbponlipaa
open Go.RowKit

/-- ranges as cells -/
def gv : List Rg → List Value
  | [] => []
  | r :: l => .int .i64 r.f :: .int .i64 r.t :: .int .i64 r.v :: gv l
theorem gv_len : ∀ l : List Rg, (gv l).length = l.length * 3
  | [] => rfl
  | r :: l => by rw [gv, List.length_cons, List.length_cons, List.length_cons, gv_len l, List.length_cons]; omega
theorem gv_app : ∀ l m : List Rg, gv (l ++ m) = gv l ++ gv m
  | [], _ => rfl
  | r :: l, m => by rw [List.cons_append, gv, gv, gv_app l m]; rfl
theorem gv_at : ∀ {l : List Rg} {i : Nat}, i < l.length → (gv l)[i * 3]? = some (.int .i64 (l.getD i noRg).f) ∧ (gv l)[i * 3 + 1]? = some (.int .i64 (l.getD i noRg).t) ∧ (gv l)[i * 3 + 2]? = some (.int .i64 (l.getD i noRg).v)
  | [], _, h => by simp at h
  | r :: l, 0, _ => by simp [gv]
  | r :: l, i + 1, h => by
    have ih := gv_at (l := l) (i := i) (by simpa using h)
    rw [gv, show (i + 1) * 3 = i * 3 + 3 by omega]
    simpa using ih
theorem gv_set : ∀ {l : List Rg} {i : Nat} (c : Int), i < l.length → (gv l).set (i * 3 + 1) (.int .i64 c) = gv (l.set i ⟨(l.getD i noRg).f, c, (l.getD i noRg).v⟩)
  | [], _, _, h => by simp at h
  | r :: l, 0, c, _ => by simp [gv]
  | r :: l, i + 1, c, h => by
    have ih := gv_set (l := l) (i := i) c (by simpa using h)
    rw [gv, show (i + 1) * 3 + 1 = i * 3 + 1 + 3 by omega]
    simp only [List.set_cons_succ, List.getD_cons_succ, ih, gv]
theorem gv_oneCell : ∀ (l : List Rg), ∀ u ∈ gv l, u.oneCell' = true
  | [], _, h => by cases h
  | r :: l, u, h => by
    rw [gv] at h
    simp only [List.mem_cons] at h
    rcases h with rfl | rfl | rfl | h
    · rfl
    · rfl
    · rfl
    · exact gv_oneCell l u h

/-- A slice of ranges of the call's own. -/
def OwnG (e base : Nat) (w : World) (v : Value) (l : List Rg) : Prop := w.ownsRow base e 3 v l.length (gv l)
theorem OwnG.nil (e base : Nat) (w : World) : OwnG e base w (.slice none 0 0) [] := World.ownsRow_nil _ _ _ _
theorem OwnG.drewN {e base : Nat} {w : World} {v : Value} {l : List Rg} (h : OwnG e base w v l) (n : Nat) : OwnG e base (w.drewN n) v l := h
theorem OwnG.sg {e base : Nat} {w : World} {v : Value} {l : List Rg} (h : OwnG e base w v l) : Sg w v l := by
  obtain ⟨h1, h2⟩ := h
  rcases h2 with ⟨rfl, hn⟩ | ⟨g, cap, cur, rfl, hb, hg, hnc, hcm, hcs, ht⟩
  · exact ⟨none, 0, by rw [hn], by omega, by unfold maxLen; omega, .inl rfl⟩
  · have key : ∀ j, j < l.length * 3 → w.cell? ⟨g, 0 + j, none⟩ = (gv l)[j]? := fun j hj => by
      rw [cell_of_row w g (0 + j) cur e (0, 0) hg, ← ht, List.getElem?_take, if_pos hj]
      simp
    refine ⟨some ⟨g, 0, none⟩, cap, rfl, hnc, hcm, .inr ⟨g, 0, rfl, fun _ => (Array.getElem?_eq_some_iff.1 hg).1, fun i hi => ?_⟩⟩
    obtain ⟨a1, a2, a3⟩ := gv_at hi
    exact ⟨(key (i * 3) (by omega)).trans a1, (key (i * 3 + 1) (by omega)).trans a2, (key (i * 3 + 2) (by omega)).trans a3⟩
theorem OwnG.below {e base : Nat} {w w' : World} {v : Value} {l : List Rg} (h : OwnG e base w v l) (hb : Below w.heap.size w w') : OwnG e base w' v l := by
  obtain ⟨h1, h2⟩ := h
  refine ⟨h1, ?_⟩
  rcases h2 with h2 | ⟨g, cap, cur, hv, hg, hh, r⟩
  · exact .inl h2
  · exact .inr ⟨g, cap, cur, hv, hg, by rw [hb.block g (Array.getElem?_eq_some_iff.1 hh).1]; exact hh, r⟩
/-- the last one's end is written over -/
theorem OwnG.last {e base : Nat} {w : World} {v : Value} {l : List Rg} (h : OwnG e base w v l) {i : Nat} (hi : i < l.length) (c : Int) : ∃ g cap, v = .slice (some ⟨g, 0, none⟩) l.length cap ∧ base ≤ g ∧ w.frozen? ⟨g, i * 3 + 1, none⟩ = false ∧
    OwnG e base (w.setCell ⟨g, i * 3 + 1, none⟩ (.int .i64 c)) v (l.set i ⟨(l.getD i noRg).f, c, (l.getD i noRg).v⟩) := by
  obtain ⟨h1, h2⟩ := h
  rcases h2 with ⟨rfl, hn⟩ | ⟨g, cap, cur, rfl, hb, hg, hnc, hcm, hcs, ht⟩
  · omega
  · refine ⟨g, cap, rfl, hb, frozen_of_row w g _ cur e hg, ?_⟩
    refine ⟨by rw [gv_len], .inr ⟨g, cap, cur.setIfInBounds (i * 3 + 1) (.int .i64 c), by rw [List.length_set], hb, ?_, by rw [List.length_set]; exact hnc, hcm, by simpa using hcs, ?_⟩⟩
    · show (w.setCell ⟨g, i * 3 + 1, none⟩ (.int .i64 c)).heap[g]? = _
      simp [World.setCell, Array.getElem?_modify, hg]
    · rw [← gv_set c hi, ← ht, Array.toList_setIfInBounds, List.length_set, List.take_set]
theorem OwnG.mono {e base base' : Nat} {w : World} {v : Value} {l : List Rg} (h : OwnG e base w v l) (hb : base' ≤ base) : OwnG e base' w v l := by
  obtain ⟨h1, h2⟩ := h
  refine ⟨h1, ?_⟩
  rcases h2 with h2 | ⟨g, cap, cur, hv, hg, r⟩
  · exact .inl h2
  · exact .inr ⟨g, cap, cur, hv, by omega, r⟩
theorem OwnG.form {e base : Nat} {w : World} {v : Value} {l : List Rg} (h : OwnG e base w v l) : ∃ a c, v = .slice a l.length c := h.sg.form
/-- where it lies, what its cells hold -/
theorem OwnG.open_ {e base : Nat} {w : World} {v : Value} {l : List Rg} (h : OwnG e base w v l) {i : Nat} (hi : i < l.length) : ∃ g cap, v = .slice (some ⟨g, 0, none⟩) l.length cap ∧ base ≤ g ∧ g < w.heap.size ∧
    w.cell? ⟨g, i * 3 + 1, none⟩ = some (.int .i64 (l.getD i noRg).t) ∧ w.cell? ⟨g, i * 3 + 2, none⟩ = some (.int .i64 (l.getD i noRg).v) ∧ w.frozen? ⟨g, i * 3 + 1, none⟩ = false ∧
    ∀ c, OwnG e base (w.setCell ⟨g, i * 3 + 1, none⟩ (.int .i64 c)) v (l.set i ⟨(l.getD i noRg).f, c, (l.getD i noRg).v⟩) := by
  have hl := fun c => h.last hi c
  obtain ⟨h1, h2⟩ := h
  rcases h2 with ⟨rfl, hn⟩ | ⟨g, cap, cur, rfl, hb, hg, hnc, hcm, hcs, ht⟩
  · omega
  · have key : ∀ j, j < l.length * 3 → w.cell? ⟨g, j, none⟩ = (gv l)[j]? := fun j hj => by
      rw [cell_of_row w g j cur e (0, 0) hg, ← ht, List.getElem?_take, if_pos hj]
      simp
    obtain ⟨_, a2, a3⟩ := gv_at hi
    refine ⟨g, cap, rfl, hb, (Array.getElem?_eq_some_iff.1 hg).1, (key (i * 3 + 1) (by omega)).trans a2, (key (i * 3 + 2) (by omega)).trans a3, frozen_of_row w g _ cur e hg, fun c => ?_⟩
    obtain ⟨g', cap', he, _, _, hown⟩ := hl c
    injection he with he _ _
    injection he with he
    injection he with he
    subst he
    exact hown
/-- append(dst, r) -/
theorem wpList_appG {P : Program} (w : World) {ops : Array Oper} {rest : List Oper} {o : Oper} {a : Act} {Q : Exit → Act → World → Prop} (hgd : o.guard = none) (s x : Operand) (t : TypeId)
    (ho : o.op = .call { callee := .builtin .append, args := #[s, x], argTypes := #[t, t] })
    (base e : Nat) (bytes : Nat) (i : TypeInfo) (z : Value) (ht : P.underlying t = some (.slice e)) (hi : P.info? e = some i) (hz : i.zero = some z) (hsize : i.size = 3) (hby : i.bytes = bytes) (hzs : z.cells.size = 3)
    (v : Value) (l : List Rg) (hs : a.eval s = v) (hown : OwnG e base w v l) (b : Nat) (r : Rg) (hx : a.eval x = .slice (some ⟨b, 0, none⟩) 1 1)
    (hc : w.cell? ⟨b, 0, none⟩ = some (.int .i64 r.f) ∧ w.cell? ⟨b, 1, none⟩ = some (.int .i64 r.t) ∧ w.cell? ⟨b, 2, none⟩ = some (.int .i64 r.v))
    (h63 : l.length + 1 ≤ maxLen) (hbytes : (l.length + 1) * bytes ≤ 140737488355328) (hbase : base ≤ w.heap.size)
    (h : ∀ g cap w', OwnG e base w' (.slice (some ⟨g, 0, none⟩) (l.length + 1) cap) (l ++ [r]) → Below base w w' → wpList P ops Q rest (a.put o.dst (.slice (some ⟨g, 0, none⟩) (l.length + 1) cap)) w') : wpList P ops Q (o :: rest) a w := by
  refine wpList_append_lies w hgd s x t ho base e i z 3 bytes ht hi hz hsize hby hzs (by decide) v l.length (gv l) hs hown ⟨b, 0, none⟩ 1 1 (gv [r]) hx (by simp [gv]) ?_ (gv_oneCell [r]) (by decide) h63 hbytes hbase w.heap.size rfl ?_
  · intro j u hj
    match j, hj with
    | 0, hj => simp [gv] at hj; subst hj; simpa [Addr.add] using hc.1
    | 1, hj => simp [gv] at hj; subst hj; simpa [Addr.add] using hc.2.1
    | 2, hj => simp [gv] at hj; subst hj; simpa [Addr.add] using hc.2.2
    | j + 3, hj => simp [gv] at hj
  · intro g cap w' hown' hg _ _
    exact h g cap w' (by unfold OwnG; rw [gv_app, List.length_append]; exact hown') ((Below.refl base w).grown hg hbase (fun k hk => (World.ownsRow.lt hown k hk).1))
end Go.Proofs.Ytialgjbponlipaa

/-! Ix -/
namespace Go.Proofs.Ytialgjbponlipaa
open Go.RowKit

theorem ixr' (x m : Int) (hm : 0 < m) : 0 ≤ (IntKind.u64.wrap x).tmod m ∧ (IntKind.u64.wrap x).tmod m < m := by
  have h0 : 0 ≤ IntKind.u64.wrap x := by
    simp only [IntKind.wrap, IntKind.bits, IntKind.signed]
    simp
    omega
  rw [Int.tmod_eq_emod_of_nonneg h0]
  exact ⟨Int.emod_nonneg _ (by omega), Int.emod_lt_of_pos _ hm⟩
theorem ixr (x m : Int) (hm : 0 < m) (hl : m ≤ 1000000) : 0 ≤ wrap64 ((IntKind.u64.wrap x).tmod m) ∧ wrap64 ((IntKind.u64.wrap x).tmod m) < m := by
  have h := ixr' x m hm
  have e : wrap64 ((IntKind.u64.wrap x).tmod m) = (IntKind.u64.wrap x).tmod m := by unfold wrap64; omega
  rw [e]
  exact h
theorem Sl.one {k : IntKind} {w : World} {v : Value} {x : Int} (h : Sl k w v [x]) : ∃ b o c, v = .slice (some ⟨b, o, none⟩) 1 c ∧ w.cell? ⟨b, o, none⟩ = some (.int k x) := by
  obtain ⟨a, c, rfl, hl, -, h⟩ := h
  rcases h with rfl | ⟨b, o, rfl, -, h⟩
  · simp at hl
  · exact ⟨b, o, c, rfl, by simpa using h 0 (by simp)⟩
theorem Sl.two {k : IntKind} {w : World} {v : Value} {x y : Int} (h : Sl k w v [x, y]) : ∃ b o c, v = .slice (some ⟨b, o, none⟩) 2 c ∧ w.cell? ⟨b, o, none⟩ = some (.int k x) ∧ w.cell? ⟨b, o + 1, none⟩ = some (.int k y) := by
  obtain ⟨a, c, rfl, hl, -, h⟩ := h
  rcases h with rfl | ⟨b, o, rfl, -, h⟩
  · simp at hl
  · exact ⟨b, o, c, rfl, by simpa using h 0 (by simp), by simpa using h 1 (by simp)⟩
end Go.Proofs.Ytialgjbponlipaa

/-! Ucd7 -/
namespace Go.Proofs.Ytialgjbponlipaa
open Go.RowKit

/-- the first place that a rule holds at, or -1 -/
def idxP (p : Rg → Bool) : List Rg → Int → Int
  | [], _ => -1
  | x :: l, k => if p x then k else idxP p l (k + 1)
theorem idxP_drop {p : Rg → Bool} : ∀ {l : List Rg} {k : Nat} {o : Int}, k ≤ l.length → (∀ i, i < k → p (l.getD i noRg) = false) → idxP p l o = idxP p (l.drop k) (o + (k : Int))
  | _, 0, o, _, _ => by simp
  | [], k + 1, _, h, _ => by simp at h
  | r :: l, k + 1, o, h, ha => by
    have h0 := ha 0 (by omega)
    simp only [List.getD_cons_zero] at h0
    rw [idxP, h0, List.drop_succ_cons, show o + ((k + 1 : Nat) : Int) = o + 1 + (k : Int) by omega]
    exact idxP_drop (by simpa using h) fun i hi => by simpa using ha (i + 1) (by omega)
theorem idxP_hit {p : Rg → Bool} {l : List Rg} {k : Nat} (h : k < l.length) (ha : ∀ i, i < k → p (l.getD i noRg) = false) (hk : p (l.getD k noRg) = true) : idxP p l 0 = (k : Int) := by
  rw [idxP_drop (by omega) ha, List.drop_eq_getElem_cons h, idxP]
  have e : l.getD k noRg = l[k] := by rw [List.getD_eq_getElem?_getD, List.getElem?_eq_getElem h]; rfl
  rw [e] at hk
  rw [hk]
  simp
theorem idxP_none {p : Rg → Bool} {l : List Rg} (ha : ∀ i, i < l.length → p (l.getD i noRg) = false) : idxP p l 0 = -1 := by
  rw [idxP_drop (Nat.le_refl _) ha, List.drop_length]
  rfl

theorem grown_trans {w w1 w2 : World} {r : Option Nat} (h : w.grownBy w1 r) (k : w1.grownBy w2 r) : w.grownBy w2 r :=
  ⟨k.os.trans h.os, k.tape.trans h.tape, k.output.trans h.output, Nat.le_trans h.size k.size, fun i hi hn => (k.block i (Nat.lt_of_lt_of_le hi h.size) hn).trans (h.block i hi hn)⟩
theorem grown_below {w w1 : World} (h : Below w.heap.size w w1) (r : Option Nat) : w.grownBy w1 r := ⟨h.os, h.tape, h.output, h.size, fun i hi _ => h.block i hi⟩
theorem grown_set {w : World} (g j : Nat) (v : Value) : w.grownBy (w.setCell ⟨g, j, none⟩ v) (some g) :=
  ⟨rfl, rfl, rfl, (Below.setCell (Below.refl 0 w) (Nat.zero_le _) v).size, fun i _ hn => Below.heap_setCell _ _ _ _ fun e => hn (by rw [e])⟩

end Go.Proofs.Ytialgjbponlipaa

/-! Res6 -/
namespace Go.Proofs.Ytialgjbponlipaa
open Go.RowKit

theorem asAddr_ptr6 (P : Program) (w : World) (a : Addr) : (asAddr (.pointer (some a))).run P w = .ok a w := by simp [asAddr]
theorem results_one {P : Program} {fn : Func} {p : Tmp} {ty : TypeId} (h : fn.results = #[.cell p ty]) {tmps : Array Value} {B : Nat} (hp : tmps.getD p undef = .pointer (some ⟨B, 0, none⟩)) {w : World} {y : Value} (hl : (loadVar ty ⟨B, 0, none⟩).run P w = .ok y w) :
    (results fn tmps).run P w = .ok y w := by
  have e : (results fn tmps).run P w = ((asAddr (tmps.getD p undef)).run P w).andThen fun a w₁ => (loadVar ty a).run P w₁ := by
    simp only [results, h]
    simp [Sem.run_bind, Result.andThen]
  rw [e, hp, asAddr_ptr6]
  simp only [Result.andThen]
  rw [hl]
theorem results_two {P : Program} {fn : Func} {p u : Tmp} {ty : TypeId} (h : fn.results = #[.cell p ty, .tmp u]) {tmps : Array Value} {B : Nat} (hp : tmps.getD p undef = .pointer (some ⟨B, 0, none⟩)) {w : World} {y : Value} (hl : (loadVar ty ⟨B, 0, none⟩).run P w = .ok y w) :
    (results fn tmps).run P w = .ok (.tuple #[y, tmps.getD u undef]) w := by
  have e : (results fn tmps).run P w = ((asAddr (tmps.getD p undef)).run P w).andThen fun a w₁ => ((loadVar ty a).run P w₁).andThen fun y w₂ => .ok (.tuple #[y, tmps.getD u undef]) w₂ := by
    simp only [results, h]
    simp [Sem.run_bind, Result.andThen]
  rw [e, hp, asAddr_ptr6]
  simp only [Result.andThen]
  rw [hl]
theorem loadC3 {a b c : Value} {B : Nat} {w : World} (h : Box 50 [a, b, c] B w) : (loadVar 50 ⟨B, 0, none⟩).run Try.prog w = .ok (.agg #[a, b, c]) w := by
  have k0 := h.cell 0
  have k1 := h.cell 1
  have k2 := h.cell 2
  simp only [List.getElem?_cons_zero, List.getElem?_cons_succ] at k0 k1 k2
  simp [go_sem, k0, k1, k2]
theorem loadMp {a b : Value} {B : Nat} {w : World} (h : Box 57 [a, b] B w) : (loadVar 57 ⟨B, 0, none⟩).run Try.prog w = .ok (.agg #[a, b]) w := by
  have k0 := h.cell 0
  have k1 := h.cell 1
  simp only [List.getElem?_cons_zero, List.getElem?_cons_succ] at k0 k1
  simp [go_sem, k0, k1]
end Go.Proofs.Ytialgjbponlipaa

/-! Ucd2 -/
namespace Go.Proofs.Ytialgjbponlipaa
open Go.RowKit

/-- the first of a list that has a property, and whether there is one -/
def fndS (p : Rg → Bool) : List Rg → Rg × Bool
  | [] => (noRg, false)
  | r :: l => if p r then (r, true) else fndS p l
theorem fndS_drop {p : Rg → Bool} : ∀ {l : List Rg} {k : Nat}, k ≤ l.length → (∀ i, i < k → p (l.getD i noRg) = false) → fndS p l = fndS p (l.drop k)
  | _, 0, _, _ => rfl
  | [], k + 1, h, _ => by simp at h
  | r :: l, k + 1, h, ha => by
    have h0 := ha 0 (by omega)
    simp only [List.getD_cons_zero] at h0
    rw [fndS, h0, List.drop_succ_cons]
    exact fndS_drop (by simpa using h) fun i hi => by simpa using ha (i + 1) (by omega)
theorem fndS_hit {p : Rg → Bool} {l : List Rg} {k : Nat} (h : k < l.length) (ha : ∀ i, i < k → p (l.getD i noRg) = false) (hk : p (l.getD k noRg) = true) : fndS p l = (l.getD k noRg, true) := by
  rw [fndS_drop (by omega) ha, List.drop_eq_getElem_cons h, fndS]
  have e : l.getD k noRg = l[k] := by rw [List.getD_eq_getElem?_getD, List.getElem?_eq_getElem h]; rfl
  rw [e] at hk ⊢
  rw [hk]
  rfl
theorem fndS_none {p : Rg → Bool} {l : List Rg} (ha : ∀ i, i < l.length → p (l.getD i noRg) = false) : fndS p l = (noRg, false) := by
  rw [fndS_drop (Nat.le_refl _) ha, List.drop_length]
  rfl

theorem box_last (w : World) (A : Obj) (t : TypeId) (cs : List Value) : Box t cs (w.heap.size + 1) ((w.alloc A).alloc (.cells cs.toArray t)) := by
  have := Box.made (w.alloc A) t cs
  simpa using this
theorem Box.three {t : TypeId} {a b c : Value} {B : Nat} {w : World} (h : Box t [a, b, c] B w) (x y z : Value) : Box t [x, y, z] B (((w.setCell ⟨B, 0, none⟩ x).setCell ⟨B, 1, none⟩ y).setCell ⟨B, 2, none⟩ z) :=
  ((h.set 0 x).set 1 y).set 2 z
theorem below_three {base B : Nat} {a b c : Value} {w0 w : World} (h : Below base w0 w) (hB : base ≤ B) : Below base w0 (((w.setCell ⟨B, 0, none⟩ a).setCell ⟨B, 1, none⟩ b).setCell ⟨B, 2, none⟩ c) :=
  ((h.setCell hB _).setCell hB _).setCell hB _
end Go.Proofs.Ytialgjbponlipaa

/-! Ucd8 -/
namespace Go.Proofs.Ytialgjbponlipaa
open Go.RowKit

theorem gv_put : ∀ {l : List Rg} {i : Nat} (r : Rg), i < l.length → (((gv l).set (i * 3) (.int .i64 r.f)).set (i * 3 + 1) (.int .i64 r.t)).set (i * 3 + 2) (.int .i64 r.v) = gv (l.set i r)
  | [], _, _, h => by simp at h
  | _ :: l, 0, r, _ => by simp [gv]
  | _ :: l, i + 1, r, h => by
    have ih := gv_put (l := l) (i := i) r (by simpa using h)
    rw [gv, show (i + 1) * 3 = i * 3 + 3 by omega, show i * 3 + 3 + 1 = i * 3 + 1 + 3 by omega, show i * 3 + 3 + 2 = i * 3 + 2 + 3 by omega]
    simp only [List.set_cons_succ, ih, gv]
/-- a row is written over -/
theorem OwnG.put {e base g n cap : Nat} {w : World} {l : List Rg} (h : OwnG e base w (.slice (some ⟨g, 0, none⟩) n cap) l) {i : Nat} (hi : i < l.length) (r : Rg) :
    OwnG e base (((w.setCell ⟨g, i * 3, none⟩ (.int .i64 r.f)).setCell ⟨g, i * 3 + 1, none⟩ (.int .i64 r.t)).setCell ⟨g, i * 3 + 2, none⟩ (.int .i64 r.v)) (.slice (some ⟨g, 0, none⟩) n cap) (l.set i r) := by
  obtain ⟨h1, h2⟩ := h
  rcases h2 with ⟨h2, hn⟩ | ⟨g', cap', cur, hv, hb, hg, hnc, hcm, hcs, ht⟩
  · cases h2
  · injection hv with hv hn hc
    injection hv with hv
    injection hv with hv
    subst hv hc
    refine ⟨by rw [gv_len], .inr ⟨g, cap, ((cur.setIfInBounds (i * 3) (.int .i64 r.f)).setIfInBounds (i * 3 + 1) (.int .i64 r.t)).setIfInBounds (i * 3 + 2) (.int .i64 r.v), by rw [List.length_set, hn], hb, ?_, by rw [List.length_set]; exact hnc, hcm, by simpa using hcs, ?_⟩⟩
    · simp [World.setCell, Array.getElem?_modify, hg]
    · rw [← gv_put r hi, ← ht]
      simp only [Array.toList_setIfInBounds, List.length_set, List.take_set]
theorem OwnG.block {e base g n cap : Nat} {w : World} {l : List Rg} (h : OwnG e base w (.slice (some ⟨g, 0, none⟩) n cap) l) : n = l.length ∧ base ≤ g ∧ n ≤ cap ∧ cap ≤ maxLen ∧ ∃ cur, w.heap[g]? = some (.cells cur e) ∧ cur.size = cap * 3 ∧ cur.toList.take (l.length * 3) = gv l := by
  obtain ⟨h1, h2⟩ := h
  rcases h2 with ⟨h2, hn⟩ | ⟨g', cap', cur, hv, hb, hg, hnc, hcm, hcs, ht⟩
  · cases h2
  · injection hv with hv hn hc
    injection hv with hv
    injection hv with hv
    subst hv hc
    exact ⟨hn, hb, by omega, hcm, cur, hg, hcs, ht⟩
theorem gv_take : ∀ (l : List Rg) (i : Nat), (gv l).take (i * 3) = gv (l.take i)
  | [], i => by simp [gv]
  | _ :: l, 0 => by simp [gv]
  | _ :: l, i + 1 => by
    rw [show (i + 1) * 3 = i * 3 + 1 + 1 + 1 by omega, gv, List.take_succ_cons, List.take_succ_cons, List.take_succ_cons, gv_take l i, List.take_succ_cons, gv]
/-- cells behind a place are written over -/
theorem setCells_heap (g : Nat) (t : TypeId) : ∀ (vs : List Value) (o : Nat) (w : World) (cur : Array Value), w.heap[g]? = some (.cells cur t) →
    ∃ cur', (w.setCells g o vs).heap[g]? = some (.cells cur' t) ∧ cur'.size = cur.size ∧ cur'.toList.take o = cur.toList.take o ∧ w.grownBy (w.setCells g o vs) (some g)
  | [], o, w, cur, h => ⟨cur, h, rfl, rfl, World.grownBy.refl _ _⟩
  | v :: vs, o, w, cur, h => by
    obtain ⟨cur', h1, h2, h3, h4⟩ := setCells_heap g t vs (o + 1) (w.setCell ⟨g, o, none⟩ v) (cur.setIfInBounds o v) (by simp [World.setCell, Array.getElem?_modify, h])
    refine ⟨cur', h1, by simpa using h2, ?_, grown_trans (grown_set g o v) h4⟩
    have := congrArg (List.take o) h3
    rw [List.take_take, Nat.min_eq_left (by omega), List.take_take, Nat.min_eq_left (by omega), Array.toList_setIfInBounds, List.take_set, List.set_eq_of_length_le (by simp; omega)] at this
    exact this
/-- s[i:], s[:i] of rows of three -/
theorem cut3 {P : Program} (w : World) (t e : TypeId) (ht : P.underlying t = some (.slice e)) {i : TypeInfo} (hi : P.info? e = some i) (hs : i.size = 3) (g n cap k : Nat) (hk : k < n) (hn : n ≤ cap) :
    ((Instr.sliceAt t (.slice (some ⟨g, 0, none⟩) n cap) (some (.int .i64 (k : Int))) none none).run P w = .ok (.slice (some ⟨g, k * 3, none⟩) (n - k) (cap - k)) w ∧ (Instr.slice t (.slice (some ⟨g, 0, none⟩) n cap) (some (.int .i64 (k : Int))) none none).run P w = .ok (.slice (some ⟨g, k * 3, none⟩) (n - k) (cap - k)) w) ∧
    (Instr.sliceAt t (.slice (some ⟨g, 0, none⟩) n cap) none (some (.int .i64 (k : Int))) none).run P w = .ok (.slice (some ⟨g, 0, none⟩) k cap) w ∧ (Instr.slice t (.slice (some ⟨g, 0, none⟩) n cap) none (some (.int .i64 (k : Int))) none).run P w = .ok (.slice (some ⟨g, 0, none⟩) k cap) w := by
  have e1 : (0 : Int) ≤ (k : Int) ∧ (k : Int) ≤ (n : Int) := by omega
  have e5 : ¬ cap = k := by omega
  refine ⟨⟨?_, ?_⟩, ?_, ?_⟩ <;> simp [Instr.sliceAt, Instr.slice, run_underlying ht, Instr.sliceBounds, Instr.sliceBound, asIntOf, sizeOf, typeInfo, hi, hs, e1, e5, Addr.add]
  · rw [if_pos (by omega)]
    by_cases h0 : k * 3 = 0 <;> simp [h0]
  · rw [if_pos (by omega)]
    by_cases h0 : k * 3 = 0 <;> simp [h0]
  · intro hx; omega
  · intro hx; omega
def zs3 (n : Nat) : List Value := (Builtin.zeroCells #[Value.int .i64 0, .int .i64 0, .int .i64 0] n).toList
/-- clear(s[i:]) -/
theorem clear3 {P : Program} (w : World) (t e ty : TypeId) (ht : P.underlying t = some (.slice e)) (hv : ∀ w, (zeroValue e).run P w = .ok (.agg #[.int .i64 0, .int .i64 0, .int .i64 0]) w) (g o n c cap : Nat) (cur : Array Value) (hg : w.heap[g]? = some (.cells cur e)) (hc : cur.size = cap * 3) (hn : o + (n + 1) * 3 ≤ cap * 3) :
    (Builtin.clear_ #[t] ty #[.slice (some ⟨g, o, none⟩) (n + 1) c]).run P w = .ok (.tuple #[]) (w.setCells g o (zs3 (n + 1))) := by
  have hl : (Builtin.zeroCells #[Value.int .i64 0, .int .i64 0, .int .i64 0] (n + 1)).toList.length = (n + 1) * 3 := by simp [Builtin.zeroCells]
  have hz : ∀ v ∈ (Builtin.zeroCells #[Value.int .i64 0, .int .i64 0, .int .i64 0] (n + 1)).toList, v.oneCell' = true := by
    intro v hv
    simp only [Builtin.zeroCells, Array.toList_map, List.mem_map] at hv
    obtain ⟨i, _, rfl⟩ := hv
    have : i % 3 < 3 := Nat.mod_lt _ (by omega)
    show (#[Value.int .i64 0, .int .i64 0, .int .i64 0][i % 3]!).oneCell' = true
    match i % 3, this with
    | 0, _ => rfl
    | 1, _ => rfl
    | 2, _ => rfl
  have hst := run_storeCells_cells (P := P) g o (Builtin.zeroCells #[Value.int .i64 0, .int .i64 0, .int .i64 0] (n + 1)).toList 0 w (fun j hj => by
    rw [hl] at hj
    rw [cell_of_row w g (o + 0 + j) cur e (0, 0) hg, Array.getElem?_eq_getElem (by omega)]
    rfl) (fun j _ => frozen_of_row w g _ cur e hg) hz
  simp only [Nat.add_zero] at hst
  have hcz : (Value.agg #[Value.int .i64 0, .int .i64 0, .int .i64 0]).cells = #[Value.int .i64 0, .int .i64 0, .int .i64 0] := rfl
  simp [Builtin.clear_, run_underlying ht, hv, hcz, hst, zs3]
theorem OwnG.at {e base g n cap : Nat} {w : World} {l : List Rg} (h : OwnG e base w (.slice (some ⟨g, 0, none⟩) n cap) l) {i : Nat} (hi : i < l.length) :
    w.cell? ⟨g, i * 3, none⟩ = some (.int .i64 (l.getD i noRg).f) ∧ w.cell? ⟨g, i * 3 + 1, none⟩ = some (.int .i64 (l.getD i noRg).t) ∧ w.cell? ⟨g, i * 3 + 2, none⟩ = some (.int .i64 (l.getD i noRg).v) ∧
    w.frozen? ⟨g, i * 3, none⟩ = false ∧ w.frozen? ⟨g, i * 3 + 1, none⟩ = false ∧ w.frozen? ⟨g, i * 3 + 2, none⟩ = false := by
  obtain ⟨_, _, _, _, cur, hg, _, ht⟩ := h.block
  have key : ∀ j, j < l.length * 3 → w.cell? ⟨g, j, none⟩ = (gv l)[j]? := fun j hj => by
    rw [cell_of_row w g j cur e (0, 0) hg, ← ht, List.getElem?_take, if_pos hj]
    simp
  obtain ⟨a1, a2, a3⟩ := gv_at hi
  exact ⟨(key _ (by omega)).trans a1, (key _ (by omega)).trans a2, (key _ (by omega)).trans a3, frozen_of_row w g _ cur e hg, frozen_of_row w g _ cur e hg, frozen_of_row w g _ cur e hg⟩
theorem idxP_cases (p : Rg → Bool) (l : List Rg) : (idxP p l 0 = -1 ∧ l.filter (fun r => !p r) = l) ∨
    ∃ k, k < l.length ∧ idxP p l 0 = (k : Int) ∧ l.take k = (l.take (k + 1)).filter (fun r => !p r) := by
  by_cases h : ∀ i, i < l.length → p (l.getD i noRg) = false
  · refine .inl ⟨idxP_none h, List.filter_eq_self.2 fun r hr => ?_⟩
    obtain ⟨i, hi, rfl⟩ := List.getElem_of_mem hr
    have := h i hi
    rw [List.getD_eq_getElem?_getD, List.getElem?_eq_getElem hi] at this
    simpa using this
  · obtain ⟨k, hk, hp, hall⟩ : ∃ k, k < l.length ∧ p (l.getD k noRg) = true ∧ ∀ i, i < k → p (l.getD i noRg) = false := by
      have : ∀ n, (∃ i, i < n ∧ i < l.length ∧ p (l.getD i noRg) = true) → ∃ k, k < l.length ∧ p (l.getD k noRg) = true ∧ ∀ i, i < k → p (l.getD i noRg) = false := fun n => by
        induction n with
        | zero => rintro ⟨i, hi, _⟩; omega
        | succ n ih =>
          rintro ⟨i, hi, hl, hp⟩
          by_cases hx : ∃ i, i < n ∧ i < l.length ∧ p (l.getD i noRg) = true
          · exact ih hx
          · refine ⟨i, hl, hp, fun j hj => ?_⟩
            cases hq : p (l.getD j noRg) with
            | false => rfl
            | true => exact absurd ⟨j, by omega, by omega, hq⟩ hx
      refine this l.length ?_
      apply Classical.byContradiction
      intro hn
      apply h
      intro i hi
      cases hq : p (l.getD i noRg) with
      | false => rfl
      | true => exact absurd ⟨i, hi, hi, hq⟩ hn
    refine .inr ⟨k, hk, idxP_hit hk hall hp, ?_⟩
    rw [List.take_succ_eq_append_getElem hk, List.filter_append]
    have e : l.getD k noRg = l[k] := by rw [List.getD_eq_getElem?_getD, List.getElem?_eq_getElem hk]; rfl
    rw [e] at hp
    rw [List.filter_cons_of_neg (by simp [hp]), List.filter_nil, List.append_nil]
    refine (List.filter_eq_self.2 fun r hr => ?_).symm
    obtain ⟨i, hi, rfl⟩ := List.getElem_of_mem hr
    have hi' : i < k := by simp at hi; omega
    have := hall i hi'
    rw [List.getD_eq_getElem?_getD, List.getElem?_eq_getElem (by omega)] at this
    simpa using this
/-- the state of the pass: what stays lies ahead of place i; from j on nothing has changed -/
def DelSt (p : Rg → Bool) (l m : List Rg) (i j : Nat) : Prop := m.length = l.length ∧ m.take i = (l.take j).filter (fun r => !p r) ∧ m.drop j = l.drop j
theorem DelSt.row {p : Rg → Bool} {l m : List Rg} {i j : Nat} (h : DelSt p l m i j) : m.getD j noRg = l.getD j noRg := by
  have h1 := congrArg (fun x => x.getD 0 noRg) h.2.2
  simpa [List.getD_eq_getElem?_getD, List.getElem?_drop] using h1
theorem DelSt.gone {p : Rg → Bool} {l m : List Rg} {i j : Nat} (h : DelSt p l m i j) (hj : j < l.length) (hp : p (l.getD j noRg) = true) : DelSt p l m i (j + 1) := by
  have e : l.getD j noRg = l[j] := by rw [List.getD_eq_getElem?_getD, List.getElem?_eq_getElem hj]; rfl
  rw [e] at hp
  refine ⟨h.1, ?_, ?_⟩
  · rw [h.2.1, List.take_succ_eq_append_getElem hj, List.filter_append, List.filter_cons_of_neg (by simp [hp]), List.filter_nil, List.append_nil]
  · have := congrArg (List.drop 1) h.2.2
    simpa [List.drop_drop, Nat.add_comm] using this
theorem DelSt.stays {p : Rg → Bool} {l m : List Rg} {i j : Nat} (h : DelSt p l m i j) (hij : i < j) (hj : j < l.length) (hp : p (l.getD j noRg) = false) : DelSt p l (m.set i (l.getD j noRg)) (i + 1) (j + 1) := by
  have e : l.getD j noRg = l[j] := by rw [List.getD_eq_getElem?_getD, List.getElem?_eq_getElem hj]; rfl
  rw [e] at hp ⊢
  have hl := h.1
  refine ⟨by rw [List.length_set]; exact h.1, ?_, ?_⟩
  · rw [List.take_succ_eq_append_getElem hj, List.filter_append, List.filter_cons_of_pos (by simp [hp]), List.filter_nil, ← h.2.1]
    rw [List.take_succ_eq_append_getElem (by rw [List.length_set]; omega), List.getElem_set_self, List.take_set_of_le (Nat.le_refl _)]
  · rw [List.drop_set_of_lt (by omega)]
    have := congrArg (List.drop 1) h.2.2
    simpa [List.drop_drop, Nat.add_comm] using this
theorem DelSt.done {p : Rg → Bool} {l m : List Rg} {i : Nat} (h : DelSt p l m i l.length) : m.take i = l.filter (fun r => !p r) := by
  rw [h.2.1, List.take_length]
end Go.Proofs.Ytialgjbponlipaa

/-! Runes -/
namespace Go.Proofs.Ytialgjbponlipaa
open Go.RowKit

/-- what ranging over a string gives from a place on, in so many steps -/
def runesAt (s : ByteArray) : Nat → Nat → List Int
  | 0, _ => []
  | f + 1, p => if p < s.size then (Utf8.decode s p).1 :: runesAt s f (p + (Utf8.decode s p).2) else []
def runesS (s : ByteArray) : List Int := runesAt s s.size 0

theorem width_pos (s : ByteArray) (p : Nat) (h : p < s.size) : 1 ≤ (Utf8.decode s p).2 := by
  by_cases ha : (s[p]'h).toNat < 128
  · rw [decode_ascii s p h ha]
    exact Nat.le_refl _
  · exact (decode_high s p h (by omega)).2

theorem runesAt_end {s : ByteArray} {f p : Nat} (h : ¬ p < s.size) : runesAt s f p = [] := by
  cases f with
  | zero => rfl
  | succ f => simp [runesAt, h]

theorem runesAt_next {s : ByteArray} {f p : Nat} (h : p < s.size) (hf : s.size ≤ p + f) : runesAt s f p = ((Utf8.decode s p).1 : Int) :: runesAt s (f - 1) (p + (Utf8.decode s p).2) := by
  cases f with
  | zero => omega
  | succ f => simp [runesAt, h]

/-- an owned slice when an iterator moves on -/
theorem Own.iterAt {k : IntKind} {e base : Nat} {w : World} {v : Value} {xs : List Int} (h : Own k e base w v xs) {K : Nat} {s : ByteArray} {p q : Nat} (hk : w.heap[K]? = some (.stringIter s p)) : Own k e base (w.iterAt K s q) v xs := by
  obtain ⟨h1, h2⟩ := h
  refine ⟨h1, ?_⟩
  rcases h2 with ⟨rfl, hn⟩ | ⟨g, cap, cur, rfl, hb, hg, hr⟩
  · exact .inl ⟨rfl, hn⟩
  · have hne : g ≠ K := fun he => by rw [he, hk] at hg; simp at hg
    exact .inr ⟨g, cap, cur, rfl, hb, (Lib.iterAt_other _ _ _ _ _ hne).trans hg, hr⟩

theorem Own.notIter {k : IntKind} {e base : Nat} {w : World} {v : Value} {xs : List Int} (h : Own k e base w v xs) {K : Nat} {s : ByteArray} {p : Nat} (hk : w.heap[K]? = some (.stringIter s p)) : some K ≠ v.ownBlock := by
  obtain ⟨h1, h2⟩ := h
  rcases h2 with ⟨rfl, hn⟩ | ⟨g, cap, cur, rfl, hb, hg, hr⟩
  · simp [Value.ownBlock]
  · intro he
    simp only [Value.ownBlock, Option.some.injEq] at he
    rw [← he, hk] at hg
    simp at hg

set_option maxHeartbeats 2000000 in
theorem apiRunes (s : ByteArray) (w : World) (hs : s.size ≤ 1000000) :
    Calls Try.prog 31 #[.string s] w fun e w' => ∃ v, e = .returned v ∧ Own .i64 3 w.heap.size w' v (runesS s) ∧ Below w.heap.size w w' := by
  go_enter Try.func31, Try.ntmps31
  go_wp2
  go_loopw [3] (fun lv wr => ∃ (p f : Nat) (xs : List Int), Hid (wr.heap[w.heap.size]? = some (.stringIter s p)) ∧ Hid (Own .i64 3 w.heap.size wr lv xs) ∧ Hid (runesS s = xs ++ runesAt s f p) ∧ s.size ≤ p + f ∧ xs.length ≤ p ∧ Hid (Below w.heap.size w wr)) (fun _ wr => s.size - wr.iterPos w.heap.size)
  case atStart => exact ⟨0, s.size, [], World.iter_heap w s 0, Own.nil _ _ _ _, rfl, by omega, by simp, by unfold World.iter; (repeat (first | exact Below.refl _ _ | exact below_drewN _ | refine Below.drew ?_ | refine Below.alloc ?_ (by simp) _ | refine Below.setCell ?_ (by simp) _ | refine below_drewN' ?_ _))⟩
  case round =>
    obtain ⟨p, f, xs, hit, hown, hrun, hf, hlen, hbel⟩ := hrel
    obtain ⟨al, cl, hal⟩ := hown.out.sl.form
    subst hal
    have hsz : w.heap.size < wr.heap.size := (Array.getElem?_eq_some_iff.1 hit.out).1
    by_cases hp : p < s.size
    · have ip : Hid (wr.iterPos w.heap.size = p) := hid (by unfold World.iterPos; rw [hit.out])
      have hnx := fun ty => Lib.run_next_any_at (P := Try.prog) wr w.heap.size s p ty hit.out hp
      have hw := width_pos s p hp
      have hle := decode_le s p
      have hrun2 := hid (hrun.out.trans (by rw [runesAt_next hp hf]))
      have hit2 := hid (Lib.iterAt_heap wr w.heap.size s p (p + (Utf8.decode s p).2) hit.out)
      have hown2 := hid (hown.out.iterAt (q := p + (Utf8.decode s p).2) hit.out)
      have hbel2 := hid (Lib.below_iterAt hbel.out (Nat.le_refl _) s (p + (Utf8.decode s p).2))
      have hsz2 : w.heap.size < (wr.iterAt w.heap.size s (p + (Utf8.decode s p).2)).heap.size := by rw [Lib.iterAt_size]; exact hsz
      generalize wr.iterAt w.heap.size s (p + (Utf8.decode s p).2) = w2 at hnx hit2 hown2 hbel2 hsz2
      have hrun3 := hrun2.out
      clear hrun2 hrun
      generalize Utf8.decode s p = q at hnx hit2 hbel2 hw hle hrun3
      obtain ⟨c, d⟩ := q
      simp only at hnx hit2 hbel2 hw hle hrun3
      have hrun2 := hid hrun3
      clear hrun3
      clear hit hown
      go_wp2_with (at_builtin; go_loud (refine wpList_app _ rfl _ _ 22 rfl .i64 w.heap.size 3 8 Try.underlying22 Try.infoI64 _ xs [(c : Int)] rfl (hown2.out.below (by (repeat (first | exact Below.refl _ _ | exact below_drewN _ | refine Below.drew ?_ | refine Below.alloc ?_ (by simp) _ | refine Below.setCell ?_ (by simp) _ | refine below_drewN' ?_ _)))) _ rfl (one_sl (by first | simp | rfl)) (by unfold maxLen; first | omega | (simp; omega) | simp) (by first | omega | (simp; omega) | simp) (by first | omega | (simp; omega) | simp) ?_); intro v5 w5 ho5 hg5 hb5 hn5; clear hn5)
      have hit3 : (w2.alloc (.cells #[.int .i64 (c : Int)] 3)).heap[w.heap.size]? = some (.stringIter s (p + d)) := (Go.Lib.alloc_old w2 _ _ hsz2).trans hit2.out
      have hit5 : w5.heap[w.heap.size]? = some (.stringIter s (p + d)) := (hg5.block _ (by simp; omega) ((hown2.out.alloc _).notIter hit3)).trans hit3
      have ip5 : w5.iterPos w.heap.size = p + d := by unfold World.iterPos; rw [hit5]
      clear hg5
      go_roundw
      case rel =>
        refine ⟨p + d, f - 1, xs ++ [(c : Int)], hit5, ho5, ?_, by omega, by simp; omega, hbel2.out.trans (Below.trans ?_ hb5)⟩
        · show _ = _
          rw [hrun2.out, List.append_assoc]
          rfl
        · (repeat (first | exact Below.refl _ _ | exact below_drewN _ | refine Below.drew ?_ | refine Below.alloc ?_ (by first | omega | (simp; done) | (simp; omega)) _ | refine Below.setCell ?_ (by first | (simp; done) | (simp; omega)) _ | refine below_drewN' ?_ _))
      case measure =>
        rw [ip5, ip.out]
        omega
    · have hnx := fun ty => Lib.run_next_end_at (P := Try.prog) wr w.heap.size s p ty hit.out hp
      have hrun2 := hid (hrun.out.trans (by rw [runesAt_end hp, List.append_nil]))
      go_wp2
      go_ret
      exact ⟨_, rfl, by rw [hrun2.out]; exact hown.out, hbel.out⟩
end Go.Proofs.Ytialgjbponlipaa
