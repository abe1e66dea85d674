/- Several texts in one: Guarded, Tk, App2, OwnT. -/
import Derived.Test.YtildhebaikeknaaGreatPk1
import Derived.BigQuiet
import Derived.Laws.StructEq
import Derived.Deep.AppendLies
/-! Guarded -/
namespace Go.Proofs.YtildhebaikeknaaGreat
open Go.RowKit

theorem wpList_guarded {P : Program} {ops : Array Oper} {Q : Exit → Act → World → Prop} {rest : List Oper} {o : Oper} {a : Act} {w : World} (hw : Region.wanted o (yielded ops a.tmps) = true) (h : wpList P ops Q ({ o with guard := none } :: rest) a w) : wpList P ops Q (o :: rest) a w := by
  unfold wpList at h ⊢
  rw [if_pos hw]
  rw [if_pos (by simp [Region.wanted])] at h
  exact h
end Go.Proofs.YtildhebaikeknaaGreat

/-! Tk -/
namespace Go.Proofs.YtildhebaikeknaaGreat
open Go.RowKit

/-- The value v is a slice that holds the tokens l. -/
def Tk (w : World) (v : Value) (l : List (Int × Int)) : Prop :=
  ∃ a cap, v = .slice a l.length cap ∧ l.length ≤ cap ∧ cap ≤ maxLen ∧
    (cap = 0 ∨ ∃ b off, a = some ⟨b, off, none⟩ ∧ (0 < l.length → b < w.heap.size) ∧ ∀ i, i < l.length →
      w.cell? ⟨b, off + i * 2, none⟩ = some (.int .i64 (l.getD i (0, 0)).1) ∧ w.cell? ⟨b, off + i * 2 + 1, none⟩ = some (.int .i64 (l.getD i (0, 0)).2))
theorem Tk.below {w w' : World} {v : Value} {l : List (Int × Int)} (h : Tk w v l) (hb : Below w.heap.size w w') : Tk w' v l := by
  obtain ⟨a, cap, hv, hl, hm, h⟩ := h
  refine ⟨a, cap, hv, hl, hm, ?_⟩
  rcases h with h | ⟨b, off, ha, hbb, hc⟩
  · exact .inl h
  · refine .inr ⟨b, off, ha, fun h0 => Nat.lt_of_lt_of_le (hbb h0) hb.size, fun i hi => ?_⟩
    obtain ⟨h1, h2⟩ := hc i hi
    have hlt := hbb (by omega)
    exact ⟨(hb.cell (p := ⟨b, off + i * 2, none⟩) hlt).trans h1, (hb.cell (p := ⟨b, off + i * 2 + 1, none⟩) hlt).trans h2⟩
theorem Tk.form {w : World} {v : Value} {l : List (Int × Int)} (h : Tk w v l) : ∃ a c, v = .slice a l.length c := by
  obtain ⟨a, c, rfl, -, -, -⟩ := h
  exact ⟨a, c, rfl⟩
theorem Tk.len {w : World} {v : Value} {l : List (Int × Int)} (h : Tk w v l) : l.length ≤ 9223372036854775807 := by
  obtain ⟨a, cap, _, hl, hm, _⟩ := h
  unfold maxLen at hm
  omega
theorem Tk.one {w : World} {v : Value} {t : Int × Int} (h : Tk w v [t]) : ∃ b o c, v = .slice (some ⟨b, o, none⟩) 1 c ∧ w.cell? ⟨b, o, none⟩ = some (.int .i64 t.1) ∧ w.cell? ⟨b, o + 1, none⟩ = some (.int .i64 t.2) := by
  obtain ⟨a, c, rfl, hl, -, h⟩ := h
  rcases h with rfl | ⟨b, o, rfl, -, h⟩
  · simp at hl
  · have := h 0 (by simp)
    exact ⟨b, o, c, rfl, by simpa using this⟩
def eqT (l m : List (Int × Int)) : Bool := decide (l = m)
theorem eqT_iff {l m : List (Int × Int)} : eqT l m = true ↔ l = m := by simp [eqT]
theorem eqT_self (l : List (Int × Int)) : eqT l l = true := eqT_iff.2 rfl
theorem ext_tk {l m : List (Int × Int)} (hl : l.length = m.length) (h : ∀ i, i < l.length → l.getD i (0, 0) = m.getD i (0, 0)) : l = m := by
  apply List.ext_getElem hl
  intro i h1 h2
  have := h i h1
  simpa [List.getD_eq_getElem?_getD, List.getElem?_eq_getElem h1, List.getElem?_eq_getElem h2] using this

end Go.Proofs.YtildhebaikeknaaGreat

/-! App2 -/
namespace Go.Proofs.YtildhebaikeknaaGreat
open Go.RowKit

/-- two rows lie in different blocks -/
def Apt (u v : Value) : Prop := ∀ b, u.ownBlock = some b → v.ownBlock ≠ some b
theorem Apt.turn {u v : Value} (h : Apt u v) : Apt v u := fun b h1 h2 => h b h2 h1
theorem wpList_appI {P : Program} (w : World) {ops : Array Oper} {rest : List Oper} {o : Oper} {a : Act} {Q : Exit → Act → World → Prop} (hgd : o.guard = none) (s x : Operand) (t : TypeId)
    (ho : o.op = .call { callee := .builtin .append, args := #[s, x], argTypes := #[t, t] }) (k : IntKind)
    (base e : Nat) (bytes : Nat) (ht : P.underlying t = some (.slice e)) (hinfo : (P.info? e).map (fun i => (i.zero, i.size, i.bytes)) = some (some (.int k 0), 1, bytes))
    (v : Value) (xs ys : List Int) (hs : a.eval s = v) (hown : Own k e base w v xs) (u : Value) (hx : a.eval x = u) (hu : Sl k w u ys) (hy : 0 < ys.length)
    (h63 : xs.length + ys.length ≤ maxLen) (hbytes : (xs.length + ys.length) * bytes ≤ 140737488355328) (hbase : base ≤ w.heap.size)
    (h : ∀ g cap w', Own k e base w' (.slice (some ⟨g, 0, none⟩) (xs.length + ys.length) cap) (xs ++ ys) → w.grownBy w' v.ownBlock → Below base w w' →
      (∀ z zs, Own k e base w z zs → Apt v z → Own k e base w' z zs ∧ Apt (.slice (some ⟨g, 0, none⟩) (xs.length + ys.length) cap) z) → wpList P ops Q rest (a.put o.dst (.slice (some ⟨g, 0, none⟩) (xs.length + ys.length) cap)) w') : wpList P ops Q (o :: rest) a w := by
  obtain ⟨i, hi, hz0, hz1, hz2⟩ := info_parts hinfo
  obtain ⟨ao, cap, rfl, hl, hm, hu⟩ := hu
  rcases hu with rfl | ⟨b, off, rfl, hbb, hc⟩
  · omega
  · refine wpList_append_lies w hgd s x t ho base e i (.int k 0) 1 bytes ht hi hz0 hz1 hz2 rfl (by decide) v xs.length (xs.map (Value.int k)) hs hown ⟨b, off, none⟩ ys.length cap (ys.map (Value.int k)) hx (by simp) ?_ (ints_oneCell k ys) hy h63 hbytes hbase w.heap.size rfl ?_
    · intro j u hj
      rw [List.getElem?_map] at hj
      have hadd : (⟨b, off, none⟩ : Addr).add j = ⟨b, off + j, none⟩ := by unfold Addr.add; split <;> simp_all
      rcases Nat.lt_or_ge j ys.length with hjl | hjl
      · rw [hadd, hc j hjl, ← hj, List.getD_eq_getElem?_getD, List.getElem?_eq_getElem hjl]; rfl
      · rw [List.getElem?_eq_none hjl] at hj; cases hj
    · intro g cap' w' hown' hg hgg hlt
      refine h g cap' w' (by simpa [Own] using hown') hg ((Below.refl base w).grown hg hbase (fun k hk => (World.ownsRow.lt hown k hk).1)) fun z zs hz hap => ⟨?_, ?_⟩
      · refine World.ownsRow.kept hz hg ?_
        cases hb : z.ownBlock with
        | none => exact .inl rfl
        | some c => exact .inr fun hrow => hap c hrow.symm hb
      · intro c hc1 hc2
        have : g = c := by simpa [Value.ownBlock] using hc1
        subst this
        rcases hgg with hgg | hgg
        · exact hap _ hgg hc2
        · have := hz.lt' g hc2
          omega
theorem Apt.nil (v : Value) : Apt (.slice none 0 0) v := fun b h => by simp [Value.ownBlock] at h
end Go.Proofs.YtildhebaikeknaaGreat

/-! OwnT -/
namespace Go.Proofs.YtildhebaikeknaaGreat
open Go.RowKit

/-- tokens as cells -/
def tv : List (Int × Int) → List Value
  | [] => []
  | t :: l => .int .i64 t.1 :: .int .i64 t.2 :: tv l
theorem tv_len : ∀ l : List (Int × Int), (tv l).length = l.length * 2
  | [] => rfl
  | t :: l => by rw [tv, List.length_cons, List.length_cons, tv_len l, List.length_cons]; omega
theorem tv_app : ∀ l m : List (Int × Int), tv (l ++ m) = tv l ++ tv m
  | [], _ => rfl
  | t :: l, m => by rw [List.cons_append, tv, tv, tv_app l m]; rfl
theorem tv_at : ∀ {l : List (Int × Int)} {i : Nat}, i < l.length → (tv l)[i * 2]? = some (.int .i64 (l.getD i (0, 0)).1) ∧ (tv l)[i * 2 + 1]? = some (.int .i64 (l.getD i (0, 0)).2)
  | [], _, h => by simp at h
  | t :: l, 0, _ => by simp [tv]
  | t :: l, i + 1, h => by
    have ih := tv_at (l := l) (i := i) (by simpa using h)
    rw [tv, show (i + 1) * 2 = i * 2 + 2 by omega]
    simpa using ih
theorem tv_oneCell : ∀ (l : List (Int × Int)), ∀ u ∈ tv l, u.oneCell' = true
  | [], _, h => by cases h
  | t :: l, u, h => by
    rw [tv] at h
    simp only [List.mem_cons] at h
    rcases h with rfl | rfl | h
    · rfl
    · rfl
    · exact tv_oneCell l u h
/-- A slice of tokens of the call's own. -/
def OwnT (e base : Nat) (w : World) (v : Value) (l : List (Int × Int)) : Prop := w.ownsRow base e 2 v l.length (tv l)
theorem OwnT.nil (e base : Nat) (w : World) : OwnT e base w (.slice none 0 0) [] := World.ownsRow_nil _ _ _ _
theorem OwnT.tk {e base : Nat} {w : World} {v : Value} {l : List (Int × Int)} (h : OwnT e base w v l) : Tk w v l := by
  obtain ⟨h1, h2⟩ := h
  rcases h2 with ⟨rfl, hn⟩ | ⟨g, cap, cur, rfl, hb, hg, hnc, hcm, hcs, ht⟩
  · exact ⟨none, 0, by rw [hn], by omega, by unfold maxLen; omega, .inl rfl⟩
  · have key : ∀ j, j < l.length * 2 → w.cell? ⟨g, 0 + j, none⟩ = (tv l)[j]? := fun j hj => by
      rw [cell_of_row w g (0 + j) cur e (0, 0) hg, ← ht, List.getElem?_take, if_pos hj]
      simp
    refine ⟨some ⟨g, 0, none⟩, cap, rfl, hnc, hcm, .inr ⟨g, 0, rfl, fun _ => (Array.getElem?_eq_some_iff.1 hg).1, fun i hi => ?_⟩⟩
    obtain ⟨a1, a2⟩ := tv_at hi
    exact ⟨(key (i * 2) (by omega)).trans a1, (key (i * 2 + 1) (by omega)).trans a2⟩
theorem OwnT.below {e base : Nat} {w w' : World} {v : Value} {l : List (Int × Int)} (h : OwnT e base w v l) (hb : Below w.heap.size w w') : OwnT e base w' v l := by
  obtain ⟨h1, h2⟩ := h
  refine ⟨h1, ?_⟩
  rcases h2 with h2 | ⟨g, cap, cur, hv, hg, hh, r⟩
  · exact .inl h2
  · exact .inr ⟨g, cap, cur, hv, hg, by rw [hb.block g (Array.getElem?_eq_some_iff.1 hh).1]; exact hh, r⟩
theorem OwnT.alloc {e base : Nat} {w : World} {v : Value} {l : List (Int × Int)} (h : OwnT e base w v l) (o : Obj) : OwnT e base (w.alloc o) v l := h.below ((Below.refl _ _).alloc (Nat.le_refl _) _)
theorem OwnT.mono {e base base' : Nat} {w : World} {v : Value} {l : List (Int × Int)} (h : OwnT e base w v l) (hb : base' ≤ base) : OwnT e base' w v l := by
  obtain ⟨h1, h2⟩ := h
  refine ⟨h1, ?_⟩
  rcases h2 with h2 | ⟨g, cap, cur, hv, hg, r⟩
  · exact .inl h2
  · exact .inr ⟨g, cap, cur, hv, by omega, r⟩
theorem OwnT.form {e base : Nat} {w : World} {v : Value} {l : List (Int × Int)} (h : OwnT e base w v l) : ∃ a c, v = .slice a l.length c := h.tk.form
/-- a row of another type grows: these tokens stay -/
theorem OwnT.apart {e base e' base' : Nat} {k : IntKind} {w w' : World} {v u : Value} {l : List (Int × Int)} {xs : List Int} (h : OwnT e base w v l) (ho : Own k e' base' w u xs) (ht : e ≠ e') (hg : w.grownBy w' u.ownBlock) : OwnT e base w' v l := by
  refine World.ownsRow.kept h hg ?_
  rcases h.2 with ⟨rfl, hn⟩ | ⟨g, cap, cur, rfl, hb, hh, -⟩
  · exact .inl rfl
  · exact .inr fun e1 => ho.other (t := e) (cs := cur.toList) (B := g) (by unfold Box; rw [hh]) ht e1
/-- numbers of the call's own stay while tokens are appended -/
theorem OwnT.leaves {e base e' base' : Nat} {k : IntKind} {w w' : World} {v u : Value} {l : List (Int × Int)} {xs : List Int} (h : OwnT e base w v l) (ho : Own k e' base' w u xs) (ht : e ≠ e') (hg : w.grownBy w' v.ownBlock) : Own k e' base' w' u xs := by
  refine World.ownsRow.kept ho hg ?_
  rcases h.2 with ⟨rfl, hn⟩ | ⟨g, cap, cur, rfl, hb, hh, -⟩
  · cases hu : u.ownBlock with
    | none => exact .inl rfl
    | some c => exact .inr (by simp [Value.ownBlock])
  · cases hu : u.ownBlock with
    | none => exact .inl rfl
    | some c =>
      refine .inr fun e1 => ?_
      have h2 := ho.other (t := e) (cs := cur.toList) (B := g) (by unfold Box; rw [hh]) ht
      exact h2 (by rw [hu, ← e1.symm]; rfl)
theorem Box.grownT {e base : Nat} {w w' : World} {v : Value} {l : List (Int × Int)} {t : TypeId} {cs : List Value} {B : Nat} (hb : Box t cs B w) (h : OwnT e base w v l) (hg : w.grownBy w' v.ownBlock) (ht : t ≠ e) : Box t cs B w' := by
  refine (hg.block B hb.lt fun e1 => ?_).trans hb
  rcases h.2 with ⟨rfl, hn⟩ | ⟨g, cap, cur, rfl, -, hh, -⟩
  · cases e1
  · have e2 : B = g := by simpa [Value.ownBlock] using e1
    subst e2
    unfold Box at hb
    rw [hb] at hh
    injection hh with hh
    injection hh with _ hh
    exact ht hh
/-- append(dst, t) -/
theorem wpList_appT {P : Program} (w : World) {ops : Array Oper} {rest : List Oper} {o : Oper} {a : Act} {Q : Exit → Act → World → Prop} (hgd : o.guard = none) (s x : Operand) (t : TypeId)
    (ho : o.op = .call { callee := .builtin .append, args := #[s, x], argTypes := #[t, t] })
    (base e : Nat) (bytes : Nat) (i : TypeInfo) (z : Value) (ht : P.underlying t = some (.slice e)) (hi : P.info? e = some i) (hz : i.zero = some z) (hsize : i.size = 2) (hby : i.bytes = bytes) (hzs : z.cells.size = 2)
    (v : Value) (l : List (Int × Int)) (hs : a.eval s = v) (hown : OwnT e base w v l) (b : Nat) (r : Int × Int) (hx : a.eval x = .slice (some ⟨b, 0, none⟩) 1 1)
    (hc : w.cell? ⟨b, 0, none⟩ = some (.int .i64 r.1) ∧ w.cell? ⟨b, 1, none⟩ = some (.int .i64 r.2))
    (h63 : l.length + 1 ≤ maxLen) (hbytes : (l.length + 1) * bytes ≤ 140737488355328) (hbase : base ≤ w.heap.size)
    (h : ∀ g cap w', OwnT e base w' (.slice (some ⟨g, 0, none⟩) (l.length + 1) cap) (l ++ [r]) → Below base w w' → w.grownBy w' v.ownBlock → wpList P ops Q rest (a.put o.dst (.slice (some ⟨g, 0, none⟩) (l.length + 1) cap)) w') : wpList P ops Q (o :: rest) a w := by
  refine wpList_append_lies w hgd s x t ho base e i z 2 bytes ht hi hz hsize hby hzs (by decide) v l.length (tv l) hs hown ⟨b, 0, none⟩ 1 1 (tv [r]) hx (by simp [tv]) ?_ (tv_oneCell [r]) (by decide) h63 hbytes hbase w.heap.size rfl ?_
  · intro j u hj
    match j, hj with
    | 0, hj => simp [tv] at hj; subst hj; simpa [Addr.add] using hc.1
    | 1, hj => simp [tv] at hj; subst hj; simpa [Addr.add] using hc.2
    | j + 2, hj => simp [tv] at hj
  · intro g cap w' hown' hg _ _
    exact h g cap w' (by unfold OwnT; rw [tv_app, List.length_append]; exact hown') ((Below.refl base w).grown hg hbase (fun k hk => (World.ownsRow.lt hown k hk).1)) hg
end Go.Proofs.YtildhebaikeknaaGreat
