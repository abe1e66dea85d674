/- Several texts in one: Guarded, IterKit, IterMarks, Grid, Grid2, SetsSpec, SetsAt, RefSets1, RefSets2, SetsMath. -/
import Derived.Test.YtidjjaginindoaaGreatPk1
import Derived.RangeFuncNested
import Derived.RangeFuncBound
import Derived.RangeFuncCalls
import Derived.RangeFuncLeaves
import Derived.RangeFuncBox
import Derived.Shelf.Abstract
import Derived.Shelf.RegionOpen
import Derived.OwnWalkIn
import Derived.TacticsInMore
import Derived.LoopNIn
import Derived.LoopIn
import Derived.Maps.AppendAt
/-! Guarded -/
namespace Go.Proofs.YtidjjaginindoaaGreat
open Go.RowKit

theorem wpList_guarded {P : Program} {ops : Array Oper} {Q : Exit → Act → World → Prop} {rest : List Oper} {o : Oper} {a : Act} {w : World} (hw : Region.wanted o (yielded ops a.tmps) = true) (h : wpList P ops Q ({ o with guard := none } :: rest) a w) : wpList P ops Q (o :: rest) a w := by
  unfold wpList at h ⊢
  rw [if_pos hw]
  rw [if_pos (by simp [Region.wanted])] at h
  exact h
end Go.Proofs.YtidjjaginindoaaGreat

/-! IterKit -/
namespace Go.Proofs.YtidjjaginindoaaGreat
open Go.RowKit Go.Shelf

/-- the box B holds a slice (or another value) whose block lies in the world -/
def InvB (B : Nat) (t : TypeId) (W : World) : Prop := ∃ v, Boxed W B t v ∧ ∀ r, v.ownBlock = some r → r < W.heap.size
/-- What a round keeps: all that lay below n₀; and all cells but the box B and the block of the slice that lies in it, which moves to new blocks alone. -/
def KeepRow (n₀ B : Nat) (t : TypeId) (W W' : World) : Prop :=
  Below n₀ W W' ∧ ∀ v, Boxed W B t v → (∀ r, v.ownBlock = some r → r < W.heap.size) →
    ∃ v', Boxed W' B t v' ∧ (v'.ownBlock = v.ownBlock ∨ ∃ g, v'.ownBlock = some g ∧ W.heap.size ≤ g) ∧ (∀ r, v'.ownBlock = some r → r < W'.heap.size) ∧
      ∀ k o, W.heap[k]? = some o → o.isCells = true → k ≠ B → some k ≠ v.ownBlock → W'.heap[k]? = some o
theorem KeepRow.refl (n₀ B : Nat) (t : TypeId) (W : World) : KeepRow n₀ B t W W := ⟨Below.refl _ _, fun v hv hr => ⟨v, hv, .inl rfl, hr, fun _ _ h _ _ _ => h⟩⟩
theorem KeepRow.trans {n₀ B : Nat} {t : TypeId} {X Y Z : World} (h : KeepRow n₀ B t X Y) (k : KeepRow n₀ B t Y Z) : KeepRow n₀ B t X Z := by
  refine ⟨h.1.trans k.1, fun v hv hr => ?_⟩
  obtain ⟨v1, b1, s1, r1, c1⟩ := h.2 v hv hr
  obtain ⟨v2, b2, s2, r2, c2⟩ := k.2 v1 b1 r1
  refine ⟨v2, b2, ?_, r2, fun j o hj ho hB hn => c2 j o (c1 j o hj ho hB hn) ho hB ?_⟩
  · rcases s2 with s2 | ⟨g, hg, hs⟩
    · rcases s1 with s1 | ⟨g, hg, hs⟩
      · exact .inl (s2.trans s1)
      · exact .inr ⟨g, s2.trans hg, hs⟩
    · exact .inr ⟨g, hg, Nat.le_trans h.1.size hs⟩
  · have hlt := (Array.getElem?_eq_some_iff.1 hj).1
    rcases s1 with s1 | ⟨g, hg, hs⟩
    · rw [s1]; exact hn
    · rw [hg]; intro e; simp only [Option.some.injEq] at e; omega
theorem KeepRow.of_below {n₀ B : Nat} {t : TypeId} {W W' : World} (h : Below W.heap.size W W') (hn : n₀ ≤ W.heap.size) : KeepRow n₀ B t W W' :=
  ⟨h.mono hn, fun v hv hr => ⟨v, (h.block B hv.lt).trans hv, .inl rfl, fun r e => Nat.lt_of_lt_of_le (hr r e) h.size, fun k _ hk _ _ _ => (h.block k (Array.getElem?_eq_some_iff.1 hk).1).trans hk⟩⟩
theorem keepRow_putObj {n₀ B : Nat} {t : TypeId} {m : Nat} (hn : n₀ ≤ m) (W : World) (l : Nat) (o o' : Obj) (hm : m ≤ l) (hl : W.heap[l]? = some o) (hc : o.isCells = false) : KeepRow n₀ B t W (W.putObj l o') := by
  have hg := grownBy_putObj' W l o'
  refine ⟨(Below.refl n₀ W).grown hg (by have := (Array.getElem?_eq_some_iff.1 hl).1; omega) (fun k e => by cases e; omega), fun v hv hr => ⟨v, ?_, .inl rfl, ?_, ?_⟩⟩
  · refine hv.kept hg (fun e => ?_)
    have e' : B = l := by simpa using e
    rw [← e', show W.heap[B]? = _ from hv] at hl
    cases hl
    cases hc
  · intro r e
    exact Nat.lt_of_lt_of_le (hr r e) hg.size
  · intro k x hk hx _ _
    refine (hg.block k (Array.getElem?_eq_some_iff.1 hk).1 (fun e => ?_)).trans hk
    have e' : k = l := by simpa using e
    rw [e', hl] at hk
    cases hk
    rw [hc] at hx
    cases hx
theorem KeepRow.inv {n₀ B : Nat} {t : TypeId} {W W' : World} (h : KeepRow n₀ B t W W') (hi : InvB B t W) : InvB B t W' := by
  obtain ⟨v, hv, hr⟩ := hi
  obtain ⟨v', hv', _, hr', _⟩ := h.2 v hv hr
  exact ⟨v', hv', hr'⟩
/-- what was laid since W1 lies on -/
theorem KeepRow.fresh {n₀ B : Nat} {t : TypeId} {W1 W2 W3 : World} (hi : InvB B t W1) (hb : Below W1.heap.size W1 W2) (h : KeepRow n₀ B t W2 W3) {k : Nat} {o : Obj} (hk : W1.heap.size ≤ k) (ho : W2.heap[k]? = some o) (hc : o.isCells = true) : W3.heap[k]? = some o := by
  obtain ⟨v, hv, hr⟩ := hi
  have hv2 : Boxed W2 B t v := (hb.block B hv.lt).trans hv
  obtain ⟨v', _, _, _, hcs⟩ := h.2 v hv2 (fun r e => Nat.lt_of_lt_of_le (hr r e) hb.size)
  have hl := hv.lt
  refine hcs k o ho hc (by omega) (fun e => ?_)
  have := hr k e.symm
  omega
/-- and so does a slice that was made since W1 -/
theorem KeepRow.own {n₀ B : Nat} {t : TypeId} {W1 W2 W3 : World} (hi : InvB B t W1) (hb : Below W1.heap.size W1 W2) (h : KeepRow n₀ B t W2 W3) {k : IntKind} {e : Nat} {v : Value} {xs : List Int} (ho : Own k e W1.heap.size W2 v xs) : Own k e W1.heap.size W3 v xs := by
  refine ⟨ho.1, ?_⟩
  rcases ho.2 with hn | ⟨g, cap, cur, hv, hg, hh, r⟩
  · exact .inl hn
  · exact .inr ⟨g, cap, cur, hv, hg, h.fresh hi hb hg hh rfl, r⟩
theorem abides_inv {β : Type} {L B : Nat} {t : TypeId} {J : β → World → Prop} (h : AbidesFrom L J) : AbidesFrom L (fun s W => J s W ∧ InvB B t W) := fun s W W' row hs hg hr => by
  refine ⟨h s W W' row hs.1 hg hr, ?_⟩
  obtain ⟨v, hv, hb⟩ := hs.2
  refine ⟨v, hv.kept hg (fun e => ?_), fun r e => Nat.lt_of_lt_of_le (hb r e) hg.size⟩
  obtain ⟨_, o, ho, hw⟩ := hr B e.symm
  rw [show W.heap[B]? = _ from hv] at ho
  cases ho
  cases hw
/-- where the longer slice lies: in the old block or in a new one -/
theorem append_moves {P : Program} (w : World) (base : Nat) (t ty e : TypeId) (i : TypeInfo) (z : Value) (size bytes : Nat) (ht : P.underlying t = some (.slice e)) (hi : P.info? e = some i) (hz : i.zero = some z)
    (hsize : i.size = size) (hby : i.bytes = bytes) (hzs : z.cells.size = size) (hsz : 0 < size)
    (v : Value) (n : Nat) (xs : List Value) (hown : w.ownsRow base e size v n xs)
    (a : Addr) (m c : Nat) (news : List Value) (hl : news.length = m * size) (hnews : ∀ j u, news[j]? = some u → w.cell? (a.add j) = some u) (h1 : ∀ u ∈ news, u.oneCell' = true)
    (h63 : n + m ≤ maxLen) (hbytes : (n + m) * bytes ≤ 140737488355328) (v' : Value) (w' : World) (hrun : (Builtin.append_ #[t, t] ty #[v, .slice (some a) m c]).run P w = .ok v' w') :
    v'.ownBlock = v.ownBlock ∨ ∃ g, v'.ownBlock = some g ∧ w.heap.size ≤ g := by
  rcases hown.2 with ⟨rfl, rfl⟩ | ⟨g, cap, cur, rfl, hbg, hg, hnc, hcm, hcs, htake⟩
  · obtain ⟨v2, w2, hr, h2, -, -⟩ := run_append_own (P := P) w w.heap.size t ty e i z size bytes ht hi hz hsize hby hzs hsz (.slice none 0 0) 0 xs ⟨hown.1, .inl ⟨rfl, rfl⟩⟩ a m c news hl hnews h1 h63 hbytes (Nat.le_refl _)
    rw [hrun] at hr
    injection hr with hv hw
    rw [← hv, ← hw] at h2
    cases hb : v'.ownBlock with
    | none => exact .inl rfl
    | some g => exact .inr ⟨g, rfl, (World.ownsRow.lt h2 g hb).1⟩
  · subst hsize
    by_cases hroom : n + m ≤ cap
    · have hfit : n * i.size + news.length ≤ cur.size := by rw [hl, hcs, ← Nat.add_mul]; exact Nat.mul_le_mul_right _ hroom
      have hr := run_append_room (P := P) w t ty e i ht hi g n cap cur hg a m c news hl hnews h1 hroom hfit
      rw [hrun] at hr
      injection hr with hv hw
      rw [hv]
      exact .inl rfl
    · subst hby
      have holds : ∀ j u, xs[j]? = some u → w.cell? ((⟨g, 0, none⟩ : Addr).add j) = some u := hown.cells (g := g) rfl
      have hr := run_append_grow (P := P) w t ty e i z ht hi hz ⟨g, 0, none⟩ n cap xs hown.1 holds a m c news hl hnews (by omega) (by simp only [maxLen] at h63; omega) (growslice_fits (by omega) hbytes)
      rw [hrun] at hr
      injection hr with hv hw
      rw [hv]
      exact .inr ⟨w.heap.size, rfl, Nat.le_refl _⟩
theorem wpListIn_appMoves {F : Fence} {n : Nat} {P : Program} (w : World) {ops : Array Oper} {rest : List Oper} {o : Oper} {a : Act} {Q : Exit → Act → World → Prop}
    (hg : o.guard = none) (s x : Operand) (t : TypeId) (hop : o.op = Op.call { callee := Callee.builtin Builtin.append, args := #[s, x], argTypes := #[t, t] })
    (base : Nat) (e : TypeId) (i : TypeInfo) (z : Value) (size bytes : Nat) (h1 : P.underlying t = some (.slice e)) (h2 : P.info? e = some i) (h3 : i.zero = some z) (h4 : i.size = size) (h5 : i.bytes = bytes) (h6 : z.cells.size = size) (h7 : 0 < size)
    (v : Value) (k : Nat) (xs : List Value) (hs : a.eval s = v) (hown : w.ownsRow base e size v k xs) (ad : Addr) (m c : Nat) (news : List Value) (hx : a.eval x = .slice (some ad) m c) (hn : news.length = m * size)
    (hc : ∀ j u, news[j]? = some u → w.cell? (ad.add j) = some u) (h1c : ∀ u ∈ news, u.oneCell' = true) (b1 : k + m ≤ maxLen) (b2 : (k + m) * bytes ≤ 140737488355328) (b3 : base ≤ w.heap.size)
    (hK : ∀ v' w', w'.ownsRow base e size v' (k + m) (xs ++ news) → w.grownBy w' v.ownBlock → (v' = .slice none 0 0 ↔ v = .slice none 0 0 ∧ m = 0) → (v'.ownBlock = v.ownBlock ∨ ∃ g, v'.ownBlock = some g ∧ w.heap.size ≤ g) → wpListIn F n P ops Q rest (a.put o.dst v') w') :
    wpListIn F n P ops Q (o :: rest) a w := by
  refine wpListIn_plain hg fun K hK' => ?_
  obtain ⟨v', w', hrun, r1, r2, r3⟩ := run_append_own (P := P) w base t o.type e i z size bytes h1 h2 h3 h4 h5 h6 h7 v k xs hown ad m c news hn hc h1c b1 b2 b3
  have r4 := append_moves (P := P) w base t o.type e i z size bytes h1 h2 h3 h4 h5 h6 h7 v k xs hown ad m c news hn hc h1c b1 b2 v' w' hrun
  unfold Oper.wpIn
  refine ⟨?_, ?_⟩
  · simp [Oper.about, hop, resolve, Target.leads, Sem.run_pure]
  · rw [Oper.semAt_plain F _ _ (by rw [hop]; intro c hc'; cases hc')]
    simp [execOp, hop, resolve, invoke, builtin, hs, hx, hrun, Result.andThen]
    exact hK' _ _ (hK v' w' r1 r2 r3 r4)
/-- the store of the longer slice, in the words that a body owes -/
theorem keepRow_appended {n₀ B : Nat} {t : TypeId} {e : Nat} {k : IntKind} {base : Nat} {W w1 : World} {v v' : Value} {xs ys : List Int} (hte : t ≠ e) (hv : Boxed W B t v) (hB : n₀ ≤ B) (hbase : n₀ ≤ base) (hsz : n₀ ≤ W.heap.size) (ho : Own k e base W v xs) (hn : Own k e base w1 v' ys) (hg : W.grownBy w1 v.ownBlock)
    (hm : v'.ownBlock = v.ownBlock ∨ ∃ g, v'.ownBlock = some g ∧ W.heap.size ≤ g) : KeepRow n₀ B t W (w1.setCell ⟨B, 0, none⟩ v') ∧ Boxed (w1.setCell ⟨B, 0, none⟩ v') B t v' ∧ Own k e base (w1.setCell ⟨B, 0, none⟩ v') v' ys := by
  have hne : some B ≠ v.ownBlock := hv.not_row hte ho
  have hv1 : Boxed w1 B t v := hv.kept hg hne
  have hne1 : some B ≠ v'.ownBlock := hv1.not_row hte hn
  have hg2 := grownBy_setCell' w1 B v'
  have hown : Own k e base (w1.setCell ⟨B, 0, none⟩ v') v' ys := World.ownsRow.kept hn hg2 (.inr (fun e => hne1 e.symm))
  refine ⟨⟨((Below.refl n₀ W).grown hg hsz (fun r e => Nat.le_trans hbase (World.ownsRow.lt ho r e).1)).grown hg2 (by have := hg.size; omega) (fun r e => by cases e; exact hB), fun u hu _ => ?_⟩, hv1.set v', hown⟩
  obtain rfl : u = v := by
    have := (show W.heap[B]? = _ from hu).symm.trans hv
    simpa using this
  refine ⟨v', hv1.set v', hm, fun r e => (World.ownsRow.lt hown r e).2, fun j o hj _ hjB hjr => ?_⟩
  have hlt := (Array.getElem?_eq_some_iff.1 hj).1
  refine (hg2.block j (Nat.lt_of_lt_of_le hlt hg.size) (fun e => hjB (by simpa using e))).trans ?_
  exact (hg.block j hlt hjr).trans hj
end Go.Proofs.YtidjjaginindoaaGreat

/-! IterMarks -/
namespace Go.Proofs.YtidjjaginindoaaGreat
open Go.RowKit Go.Shelf

/-- marks of loops that are over, the newest first; none of their blocks is met twice -/
def Marks (base : Nat) (w : World) : List Deferred → Prop
  | [] => True
  | d :: ds => (∃ D, d = { target := .collected D, args := #[] } ∧ base ≤ D ∧ w.heap[D]? = some (.deferred (some [])) ∧ ∀ d' ∈ ds, d' ≠ { target := .collected D, args := #[] }) ∧ Marks base w ds
/-- what is no mark's block may turn -/
theorem Marks.turned {base : Nat} {w w' : World} : ∀ {ds : List Deferred}, Marks base w ds → (∀ D, ({ target := .collected D, args := #[] } : Deferred) ∈ ds → w'.heap[D]? = w.heap[D]?) → Marks base w' ds
  | [], _, _ => trivial
  | d :: ds, ⟨⟨D, hd, hb, hh, hn⟩, ht⟩, h => ⟨⟨D, hd, hb, (h D (by rw [hd]; exact List.mem_cons_self ..)).trans hh, hn⟩, ht.turned fun D' h' => h D' (List.mem_cons_of_mem _ h')⟩
theorem Marks.at {base : Nat} {w : World} : ∀ {ds : List Deferred} {D : Nat}, Marks base w ds → ({ target := .collected D, args := #[] } : Deferred) ∈ ds → base ≤ D ∧ w.heap[D]? = some (.deferred (some []))
  | d :: ds, D, ⟨⟨D', hd, hb, hh, _⟩, ht⟩, h => by
    rcases List.mem_cons.1 h with h | h
    · rw [hd] at h
      cases h
      exact ⟨hb, hh⟩
    · exact ht.at h
/-- cells are turned, and new blocks laid, alone -/
theorem Marks.others {base : Nat} {w w' : World} {ds : List Deferred} (h : Marks base w ds) (hk : KeepsOthers w w') : Marks base w' ds :=
  h.turned fun _ hD => (hk.same _ _ (h.at hD).2 rfl).trans (h.at hD).2.symm
theorem Marks.below {base B : Nat} {w w' : World} {ds : List Deferred} (h : Marks base w ds) (hb : Below B w w') (hB : w.heap.size ≤ B) : Marks base w' ds :=
  h.turned fun D hD => hb.block D (Nat.lt_of_lt_of_le (Array.getElem?_eq_some_iff.1 (h.at hD).2).1 hB)
/-- 'Marks' stands where blocks from B on turn, B being no less than the heap was -/
theorem ownFrom_marks {β : Type} {base B : Nat} {ds : List Deferred} (hlt : ∀ D, ({ target := .collected D, args := #[] } : Deferred) ∈ ds → D < B) : OwnFrom B (fun (_ : β) w => Marks base w ds) := fun _ W W' row hs hg hr => by
  refine hs.turned fun D hD => hg.block D (Array.getElem?_eq_some_iff.1 (hs.at hD).2).1 (fun e => ?_)
  have := (hr D e.symm).1
  have := hlt D hD
  omega
theorem Marks.lt {base : Nat} {w : World} {ds : List Deferred} (h : Marks base w ds) : ∀ D, ({ target := .collected D, args := #[] } : Deferred) ∈ ds → D < w.heap.size := fun _ hD => (Array.getElem?_eq_some_iff.1 (h.at hD).2).1
/-- a loop more -/
theorem Marks.cons {base D : Nat} {w : World} {ds : List Deferred} (h : Marks base w ds) (hb : base ≤ D) (hh : w.heap[D]? = some (.deferred (some []))) (hlt : ∀ D', ({ target := .collected D', args := #[] } : Deferred) ∈ ds → D' < D) : Marks base w ({ target := .collected D, args := #[] } :: ds) :=
  ⟨⟨D, rfl, hb, hh, fun d' hd' e => by
    rw [e] at hd'
    exact Nat.lt_irrefl _ (hlt D hd')⟩, h⟩
/-- cells lie on -/
def KeepCells (w w' : World) : Prop := ∀ (k : Nat) (o : Obj), w.heap[k]? = some o → o.isCells = true → w'.heap[k]? = some o
theorem KeepCells.own {w w' : World} (h : KeepCells w w') {k : IntKind} {e base : Nat} {v : Value} {xs : List Int} (ho : Own k e base w v xs) : Own k e base w' v xs := by
  refine ⟨ho.1, ?_⟩
  rcases ho.2 with hn | ⟨g, cap, cur, hv, hg, hh, r⟩
  · exact .inl hn
  · exact .inr ⟨g, cap, cur, hv, hg, h _ _ hh rfl, r⟩
/-- the return through the marks -/
theorem leaves_marks {F : Fence} {n : Nat} {P : Program} {fn : Func} {tmps : Array Value} {R : Ending → World → Prop} {base : Nat} : ∀ (ds : List Deferred) (w : World), base ≤ w.heap.size → Marks base w ds →
    (∀ w', Below base w w' → KeepCells w w' → LeavesInM F n P fn tmps R [] .returning w') → LeavesInM F n P fn tmps R ds .returning w
  | [], w, _, _, h => h w (Below.refl _ _) (fun _ _ hk _ => hk)
  | d :: ds, w, hw, ⟨⟨D, hd, hb, hh, hn⟩, ht⟩, h => by
    subst hd
    have hlt := (Array.getElem?_eq_some_iff.1 hh).1
    refine ⟨by simp, .inl ⟨D, _, rfl, run_takeDeferred hh, ?_⟩⟩
    have hg := grownBy_putObj' w D (.deferred none)
    have hbel : Below base w (w.putObj D (.deferred none)) := (Below.refl base w).grown hg hw (fun k e => by cases e; exact hb)
    refine leaves_marks ds _ (Nat.le_trans hw hg.size) (ht.turned fun D' hD' => World.putObj_heap_other (fun e => hn _ hD' (by rw [e]))) fun w' hb' hc' => h w' (hbel.trans hb') (fun k o hk ho => hc' k o ?_ ho)
    refine (hg.block k (Array.getElem?_eq_some_iff.1 hk).1 (fun e => ?_)).trans hk
    have e' : k = D := by simpa using e
    rw [e', hh] at hk
    cases hk
    cases ho
end Go.Proofs.YtidjjaginindoaaGreat

/-! Grid -/
namespace Go.Proofs.YtidjjaginindoaaGreat
open Go.RowKit

/-- The value v is a slice that holds the values vs. -/
def Sv (w : World) (v : Value) (vs : List Value) : Prop :=
  ∃ a cap, v = .slice a vs.length cap ∧ vs.length ≤ cap ∧ cap ≤ maxLen ∧
    (cap = 0 ∨ ∃ b off, a = some ⟨b, off, none⟩ ∧ (0 < vs.length → b < w.heap.size) ∧ ∀ i, i < vs.length → w.cell? ⟨b, off + i, none⟩ = some (vs.getD i undef))

/-- The value v is a slice of slices of bytes. -/
def Rws (w : World) (v : Value) (xss : List (List Int)) : Prop :=
  ∃ vs, vs.length = xss.length ∧ Sv w v vs ∧ ∀ i, i < xss.length → Sl .u8 w (vs.getD i undef) (xss.getD i [])

/-- .. that the call itself made, each row too -/
def OwnRows (te tb base : Nat) (w : World) (v : Value) (xss : List (List Int)) : Prop :=
  ∃ vs, vs.length = xss.length ∧ w.ownsRow base te 1 v vs.length vs ∧ ∀ i, i < xss.length → Own .u8 tb base w (vs.getD i undef) (xss.getD i [])

theorem Sv.below {w w' : World} {v : Value} {vs : List Value} (h : Sv w v vs) (hb : Below w.heap.size w w') : Sv w' v vs := by
  obtain ⟨a, cap, hv, hl, hm, h⟩ := h
  refine ⟨a, cap, hv, hl, hm, ?_⟩
  rcases h with h | ⟨b, off, ha, hbb, hc⟩
  · exact .inl h
  · exact .inr ⟨b, off, ha, fun h0 => Nat.lt_of_lt_of_le (hbb h0) hb.size, fun i hi => (hb.cell (p := ⟨b, off + i, none⟩) (hbb (by omega))).trans (hc i hi)⟩
theorem Sv.of_row {base te : Nat} {w : World} {v : Value} {vs : List Value} (h : w.ownsRow base te 1 v vs.length vs) : Sv w v vs := by
  obtain ⟨h1, h2⟩ := h
  rcases h2 with ⟨rfl, hn⟩ | ⟨g, cap, cur, rfl, hb, hg, hnc, hcm, hcs, ht⟩
  · exact ⟨none, 0, by rw [hn], by omega, by unfold maxLen; omega, .inl rfl⟩
  · refine ⟨some ⟨g, 0, none⟩, cap, rfl, hnc, hcm, .inr ⟨g, 0, rfl, fun _ => (Array.getElem?_eq_some_iff.1 hg).1, fun i hi => ?_⟩⟩
    rw [cell_of_row w g (0 + i) cur te (0, 0) hg]
    have : (cur.toList.take (vs.length * 1))[i]? = vs[i]? := by rw [ht]
    rw [List.getElem?_take, if_pos (by omega)] at this
    simp only [Nat.zero_add]
    rw [← Array.getElem?_toList, this, List.getD_eq_getElem?_getD, List.getElem?_eq_getElem hi]
    rfl
theorem Rws.below {w w' : World} {v : Value} {xss : List (List Int)} (h : Rws w v xss) (hb : Below w.heap.size w w') : Rws w' v xss := by
  obtain ⟨vs, h1, h2, h3⟩ := h
  exact ⟨vs, h1, h2.below hb, fun i hi => (h3 i hi).below hb⟩
theorem OwnRows.rws {te tb base : Nat} {w : World} {v : Value} {xss : List (List Int)} (h : OwnRows te tb base w v xss) : Rws w v xss := by
  obtain ⟨vs, h1, h2, h3⟩ := h
  exact ⟨vs, h1, Sv.of_row h2, fun i hi => (h3 i hi).sl⟩
theorem Rws.drewN {w : World} {v : Value} {xss : List (List Int)} (h : Rws w v xss) (n : Nat) : Rws (w.drewN n) v xss := h

theorem ownsRow_belowG {base te n : Nat} {w w' : World} {v : Value} {vs : List Value} (h : w.ownsRow base te 1 v n vs) (hb : Below w.heap.size w w') : w'.ownsRow base te 1 v n vs := by
  obtain ⟨h1, h2⟩ := h
  refine ⟨h1, ?_⟩
  rcases h2 with h2 | ⟨g, cap, cur, hv, hg, hh, r⟩
  · exact .inl h2
  · exact .inr ⟨g, cap, cur, hv, hg, by rw [hb.block g (Array.getElem?_eq_some_iff.1 hh).1]; exact hh, r⟩
theorem OwnRows.below {te tb base : Nat} {w w' : World} {v : Value} {xss : List (List Int)} (h : OwnRows te tb base w v xss) (hb : Below w.heap.size w w') : OwnRows te tb base w' v xss := by
  obtain ⟨vs, h1, h2, h3⟩ := h
  exact ⟨vs, h1, ownsRow_belowG h2 hb, fun i hi => (h3 i hi).below hb⟩
theorem ownsRow_mono {base base' te n : Nat} {w : World} {v : Value} {vs : List Value} (h : w.ownsRow base te 1 v n vs) (hb : base' ≤ base) : w.ownsRow base' te 1 v n vs := by
  obtain ⟨h1, h2⟩ := h
  refine ⟨h1, ?_⟩
  rcases h2 with h2 | ⟨g, cap, cur, hv, hg, r⟩
  · exact .inl h2
  · exact .inr ⟨g, cap, cur, hv, by omega, r⟩
theorem OwnRows.mono {te tb base base' : Nat} {w : World} {v : Value} {xss : List (List Int)} (h : OwnRows te tb base w v xss) (hb : base' ≤ base) : OwnRows te tb base' w v xss := by
  obtain ⟨vs, h1, h2, h3⟩ := h
  exact ⟨vs, h1, ownsRow_mono h2 hb, fun i hi => (h3 i hi).mono hb⟩
theorem OwnRows.nil (te tb base : Nat) (w : World) : OwnRows te tb base w (.slice none 0 0) [] := ⟨[], rfl, World.ownsRow_nil _ _ _ _, fun i hi => by simp at hi⟩

theorem Own.oneCell {k : IntKind} {e base : Nat} {w : World} {v : Value} {xs : List Int} (h : Own k e base w v xs) : v.oneCell' = true := by
  rcases h.2 with ⟨rfl, _⟩ | ⟨g, cap, cur, rfl, _⟩ <;> rfl

/-- a row of another type stays while an owned row is written -/
theorem Own.besides {k : IntKind} {e te base n : Nat} {w w' : World} {v v' : Value} {xs : List Int} {vs : List Value} (h : Own k e base w v xs) (hr : w.ownsRow base te 1 v' n vs) (hne : e ≠ te) (hg : w.grownBy w' v'.ownBlock) : Own k e base w' v xs := by
  refine World.ownsRow.kept h hg ?_
  rcases h.2 with ⟨rfl, _⟩ | ⟨g, cap, cur, rfl, _, hh, _⟩
  · exact .inl rfl
  · refine .inr fun hrow => ?_
    rcases hr.2 with ⟨rfl, _⟩ | ⟨g', cap', cur', rfl, _, hh', _⟩
    · simp [Value.ownBlock] at hrow
    · simp [Value.ownBlock] at hrow
      subst hrow
      rw [hh] at hh'
      simp at hh'
      exact hne hh'.2

/-- append(dst, u): u a slice of bytes of the call's own -/
theorem wpList_appRow {P : Program} (w : World) {ops : Array Oper} {rest : List Oper} {o : Oper} {a : Act} {Q : Exit → Act → World → Prop} (hgd : o.guard = none) (s x : Operand) (t : TypeId)
    (ho : o.op = .call { callee := .builtin .append, args := #[s, x], argTypes := #[t, t] })
    (base te tb : Nat) (hne : tb ≠ te) (bytes : Nat) (ht : P.underlying t = some (.slice te)) (hinfo : (P.info? te).map (fun i => (i.zero, i.size, i.bytes)) = some (some (.slice none 0 0), 1, bytes))
    (v : Value) (xss : List (List Int)) (hs : a.eval s = v) (hown : OwnRows te tb base w v xss) (g : Nat) (u : Value) (ys : List Int) (hx : a.eval x = .slice (some ⟨g, 0, none⟩) 1 1) (hc : w.cell? ⟨g, 0, none⟩ = some u) (hu : Own .u8 tb base w u ys)
    (h63 : xss.length + 1 ≤ maxLen) (hbytes : (xss.length + 1) * bytes ≤ 140737488355328) (hbase : base ≤ w.heap.size)
    (h : ∀ v' w', OwnRows te tb base w' v' (xss ++ [ys]) → Below base w w' → wpList P ops Q rest (a.put o.dst v') w') : wpList P ops Q (o :: rest) a w := by
  obtain ⟨i, hi, hz0, hz1, hz2⟩ := info_parts hinfo
  obtain ⟨vs, h1, h2, h3⟩ := hown
  refine wpList_append_own w hgd s x t ho base te i (.slice none 0 0) 1 bytes ht hi hz0 hz1 hz2 rfl (by decide) v vs.length vs hs h2 ⟨g, 0, none⟩ 1 1 [u] hx (by simp) ?_ ?_ (by rw [h1]; exact h63) (by rw [h1]; exact hbytes) hbase ?_
  · intro j u' hj
    match j, hj with
    | 0, hj =>
      simp at hj
      subst hj
      simpa [Addr.add] using hc
    | j + 1, hj => simp at hj
  · intro u' hu'
    simp at hu'
    subst hu'
    exact hu.oneCell
  · intro v' w' hown' hg _
    have hB : Below base w w' := (Below.refl base w).grown hg hbase (fun k hk => (World.ownsRow.lt h2 k hk).1)
    refine h v' w' ⟨vs ++ [u], by simp [h1], by simpa using hown', fun j hj => ?_⟩ hB
    simp at hj
    rcases Nat.lt_or_ge j xss.length with hl | hl
    · have := (h3 j hl).besides h2 hne hg
      simpa [List.getD_eq_getElem?_getD, List.getElem?_append_left hl, List.getElem?_append_left (show j < vs.length by omega)] using this
    · obtain rfl : j = xss.length := by omega
      have := hu.besides h2 hne hg
      simpa [List.getD_eq_getElem?_getD, ← h1] using this

def eqR (xss yss : List (List Int)) : Bool := decide (xss = yss)
theorem eqR_iff {xss yss : List (List Int)} : eqR xss yss = true ↔ xss = yss := by simp [eqR]
theorem eqR_self (xss : List (List Int)) : eqR xss xss = true := eqR_iff.2 rfl

end Go.Proofs.YtidjjaginindoaaGreat

/-! Grid2 -/
namespace Go.Proofs.YtidjjaginindoaaGreat
open Go.RowKit

theorem ext_rows {xs ys : List (List Int)} (hl : xs.length = ys.length) (h : ∀ i, i < xs.length → xs.getD i [] = ys.getD i []) : xs = ys := by
  apply List.ext_getElem hl
  intro i h1 h2
  have := h i h1
  simpa [List.getD_eq_getElem?_getD, List.getElem?_eq_getElem h1, List.getElem?_eq_getElem h2] using this

end Go.Proofs.YtidjjaginindoaaGreat

/-! SetsSpec -/
namespace Go.Proofs.YtidjjaginindoaaGreat

/-- -1 ahead, 0 the same, 1 behind -/
def cmpS : List Int → List Int → Int
  | [], [] => 0
  | [], _ :: _ => -1
  | _ :: _, [] => 1
  | x :: xs, y :: ys => if x < y then -1 else if y < x then 1 else cmpS xs ys

theorem cmpS_range : ∀ a b : List Int, cmpS a b = -1 ∨ cmpS a b = 0 ∨ cmpS a b = 1
  | [], [] => .inr (.inl rfl)
  | [], _ :: _ => .inl rfl
  | _ :: _, [] => .inr (.inr rfl)
  | x :: xs, y :: ys => by
    rw [cmpS]
    split
    · exact .inl rfl
    · split
      · exact .inr (.inr rfl)
      · exact cmpS_range xs ys
theorem cmpS_eq : ∀ a b : List Int, cmpS a b = 0 ↔ a = b
  | [], [] => by simp [cmpS]
  | [], _ :: _ => by simp [cmpS]
  | _ :: _, [] => by simp [cmpS]
  | x :: xs, y :: ys => by
    rw [cmpS]
    split
    · simp; omega
    · split
      · simp; omega
      · rw [cmpS_eq xs ys, List.cons.injEq]
        constructor
        · intro h; exact ⟨by omega, h⟩
        · intro h; exact h.2
theorem cmpS_turn : ∀ a b : List Int, cmpS b a = -cmpS a b
  | [], [] => rfl
  | [], _ :: _ => rfl
  | _ :: _, [] => rfl
  | x :: xs, y :: ys => by
    rw [cmpS, cmpS]
    by_cases h1 : x < y
    · rw [if_neg (by omega), if_pos h1, if_pos h1]; rfl
    · by_cases h2 : y < x
      · rw [if_pos h2, if_neg h1, if_pos h2]
      · rw [if_neg h2, if_neg h1, if_neg h1, if_neg h2, cmpS_turn xs ys]
theorem cmpS_trans : ∀ a b c : List Int, cmpS a b ≤ 0 → cmpS b c ≤ 0 → cmpS a c ≤ 0 ∧ (cmpS a b < 0 → cmpS a c < 0) ∧ (cmpS b c < 0 → cmpS a c < 0)
  | [], [], [] => by simp [cmpS]
  | [], [], _ :: _ => by simp [cmpS]
  | [], _ :: _, [] => by simp [cmpS]
  | [], _ :: _, _ :: _ => by simp [cmpS]
  | _ :: _, [], _ => by simp [cmpS]
  | _ :: _, _ :: _, [] => by simp [cmpS]
  | x :: xs, y :: ys, z :: zs => by
    intro h1 h2
    have ih := cmpS_trans xs ys zs
    have e1 : cmpS (x :: xs) (y :: ys) = if x < y then -1 else if y < x then 1 else cmpS xs ys := by rw [cmpS]
    have e2 : cmpS (y :: ys) (z :: zs) = if y < z then -1 else if z < y then 1 else cmpS ys zs := by rw [cmpS]
    have e3 : cmpS (x :: xs) (z :: zs) = if x < z then -1 else if z < x then 1 else cmpS xs zs := by rw [cmpS]
    generalize cmpS (x :: xs) (y :: ys) = p at *
    generalize cmpS (y :: ys) (z :: zs) = q at *
    generalize cmpS (x :: xs) (z :: zs) = r at *
    split at e1
    · split at e2
      · rw [if_pos (by omega)] at e3; omega
      · split at e2
        · omega
        · rw [if_pos (by omega)] at e3; omega
    · split at e1
      · omega
      · split at e2
        · rw [if_pos (by omega)] at e3; omega
        · split at e2
          · omega
          · rw [if_neg (by omega), if_neg (by omega)] at e3
            rw [e1] at h1 ⊢
            rw [e2] at h2 ⊢
            rw [e3]
            exact ih h1 h2
theorem cmpS_pre : ∀ (a b c : List Int), cmpS (a ++ b) (a ++ c) = cmpS b c
  | [], _, _ => rfl
  | x :: a, b, c => by
    rw [List.cons_append, List.cons_append, cmpS, if_neg (by omega), if_neg (by omega), cmpS_pre a b c]

/-- no one is ahead of the one before it -/
def sortedS : List (List Int) → Bool
  | [] => true
  | [_] => true
  | a :: b :: r => decide (0 ≤ cmpS b a) && sortedS (b :: r)

theorem sortedS_cons {a : List Int} {l : List (List Int)} (h : sortedS (a :: l) = true) : sortedS l = true ∧ ∀ x ∈ l, cmpS a x ≤ 0 := by
  induction l generalizing a with
  | nil => exact ⟨rfl, fun _ hx => by cases hx⟩
  | cons b r ih =>
    simp only [sortedS, Bool.and_eq_true, decide_eq_true_eq] at h
    obtain ⟨h1, h2⟩ := h
    have ht := cmpS_turn b a
    refine ⟨h2, fun x hx => ?_⟩
    rcases List.mem_cons.1 hx with rfl | hx
    · omega
    · exact (cmpS_trans a b x (by omega) ((ih h2).2 x hx)).1
theorem sortedS_mk {a : List Int} {l : List (List Int)} (h : sortedS l = true) (h1 : ∀ x ∈ l, cmpS a x ≤ 0) : sortedS (a :: l) = true := by
  match l, h, h1 with
  | [], _, _ => rfl
  | b :: r, h, h1 =>
    simp only [sortedS, Bool.and_eq_true, decide_eq_true_eq]
    have := cmpS_turn a b
    exact ⟨by have := h1 b (List.mem_cons_self ..); omega, h⟩

/-- rows of the same elements, both in order, are the same -/
theorem sorted_same : ∀ (l m : List (List Int)), l.Perm m → sortedS l = true → sortedS m = true → l = m
  | [], m, hp, _, _ => (List.Perm.nil_eq hp)
  | a :: l, [], hp, _, _ => by have := hp.length_eq; simp at this
  | a :: l, b :: m, hp, h1, h2 => by
    have s1 := sortedS_cons h1
    have s2 := sortedS_cons h2
    have hab : a = b := by
      have ha : a ∈ b :: m := hp.mem_iff.1 (List.mem_cons_self ..)
      have hb : b ∈ a :: l := hp.mem_iff.2 (List.mem_cons_self ..)
      rcases List.mem_cons.1 ha with rfl | ha
      · rfl
      · rcases List.mem_cons.1 hb with hb | hb
        · exact hb.symm
        · have e1 := s2.2 a ha
          have e2 := s1.2 b hb
          have e3 := cmpS_turn a b
          exact (cmpS_eq a b).1 (by omega)
    subst hab
    rw [sorted_same l m (List.perm_cons a |>.1 hp) s1.1 s2.1]

end Go.Proofs.YtidjjaginindoaaGreat

/-! SetsAt -/
namespace Go.Proofs.YtidjjaginindoaaGreat

theorem cmpS_drop : ∀ (k : Nat) (xs ys : List Int), k ≤ xs.length → k ≤ ys.length → (∀ i, i < k → xs.getD i 0 = ys.getD i 0) → cmpS xs ys = cmpS (xs.drop k) (ys.drop k)
  | 0, _, _, _, _, _ => rfl
  | k + 1, [], _, h, _, _ => by simp at h
  | k + 1, _ :: _, [], _, h, _ => by simp at h
  | k + 1, x :: xs, y :: ys, h1, h2, h => by
    have h0 : x = y := by simpa using h 0 (by omega)
    subst h0
    rw [cmpS, if_neg (by omega), if_neg (by omega), List.drop_succ_cons, List.drop_succ_cons]
    exact cmpS_drop k xs ys (by simpa using h1) (by simpa using h2) fun i hi => by simpa using h (i + 1) (by omega)
theorem cmpS_head {k : Nat} {xs ys : List Int} (h1 : k < xs.length) (h2 : k < ys.length) (h : ∀ i, i < k → xs.getD i 0 = ys.getD i 0) :
    cmpS xs ys = if xs.getD k 0 < ys.getD k 0 then -1 else if ys.getD k 0 < xs.getD k 0 then 1 else cmpS (xs.drop (k + 1)) (ys.drop (k + 1)) := by
  rw [cmpS_drop k xs ys (by omega) (by omega) h, drop_getD (x := xs.getD k 0) rfl h1, drop_getD (x := ys.getD k 0) rfl h2, cmpS]
theorem cmpS_lt {k : Nat} {xs ys : List Int} (h1 : k < xs.length) (h2 : k < ys.length) (h : ∀ i, i < k → xs.getD i 0 = ys.getD i 0) (hl : xs.getD k 0 < ys.getD k 0) : cmpS xs ys = -1 := by
  rw [cmpS_head h1 h2 h, if_pos hl]
theorem cmpS_gt {k : Nat} {xs ys : List Int} (h1 : k < xs.length) (h2 : k < ys.length) (h : ∀ i, i < k → xs.getD i 0 = ys.getD i 0) (hl : ys.getD k 0 < xs.getD k 0) : cmpS xs ys = 1 := by
  rw [cmpS_head h1 h2 h, if_neg (by omega), if_pos hl]
theorem cmpS_end {k : Nat} {xs ys : List Int} (h1 : k ≤ xs.length) (h2 : k ≤ ys.length) (h : ∀ i, i < k → xs.getD i 0 = ys.getD i 0) (he : k = xs.length ∨ k = ys.length) :
    cmpS xs ys = if xs.length < ys.length then -1 else if ys.length < xs.length then 1 else 0 := by
  rw [cmpS_drop k xs ys h1 h2 h]
  have e1 : (xs.drop k).length = xs.length - k := List.length_drop
  have e2 : (ys.drop k).length = ys.length - k := List.length_drop
  generalize xs.drop k = p at e1 ⊢
  generalize ys.drop k = q at e2 ⊢
  match p, q with
  | [], [] => simp at e1 e2; rw [if_neg (by omega), if_neg (by omega)]; rfl
  | [], _ :: _ => simp at e1 e2; rw [if_pos (by omega)]; rfl
  | _ :: _, [] => simp at e1 e2; rw [if_neg (by omega), if_pos (by omega)]; rfl
  | _ :: _, _ :: _ => simp at e1 e2; omega

/-- no one of the first k is ahead of the one before it -/
theorem sortedS_iff : ∀ (l : List (List Int)), sortedS l = true ↔ ∀ i, 1 ≤ i → i < l.length → 0 ≤ cmpS (l.getD i []) (l.getD (i - 1) [])
  | [] => by simp [sortedS]
  | [a] => by simp [sortedS]; intro i h1 h2; omega
  | a :: b :: r => by
    rw [sortedS, Bool.and_eq_true, decide_eq_true_eq, sortedS_iff (b :: r)]
    constructor
    · rintro ⟨h0, h⟩ i h1 h2
      match i, h1, h2 with
      | 1, _, _ => simpa using h0
      | i + 2, _, h2 =>
        have := h (i + 1) (by omega) (by simpa using h2)
        simpa using this
    · intro h
      refine ⟨by simpa using h 1 (by omega) (by simp), fun i h1 h2 => ?_⟩
      have := h (i + 1) (by omega) (by simpa using h2)
      match i, h1 with
      | i + 1, _ => simpa using this
end Go.Proofs.YtidjjaginindoaaGreat

/-! RefSets1 -/
namespace Go.Proofs.YtidjjaginindoaaGreat
open Go.RowKit

theorem ret_i64 {a b : Int} (h : a = b) : Ending.returned (.int .i64 a) = .returned (.int .i64 b) := by rw [h]

end Go.Proofs.YtidjjaginindoaaGreat

/-! RefSets2 -/
namespace Go.Proofs.YtidjjaginindoaaGreat
open Go.RowKit

end Go.Proofs.YtidjjaginindoaaGreat

/-! SetsMath -/
namespace Go.Proofs.YtidjjaginindoaaGreat

def rowAt (l : List (List Int)) (i : Nat) : List Int := l.getD i []
/-- place i stands ahead of place j -/
def ilt (l : List (List Int)) (i j : Nat) : Prop := cmpS (rowAt l i) (rowAt l j) < 0 ∨ (cmpS (rowAt l i) (rowAt l j) = 0 ∧ i < j)
/-- p tells which of the first n stands where -/
def IsPl (l : List (List Int)) (n : Nat) (p : List Nat) : Prop := p.Perm (List.range n) ∧ p.Pairwise (ilt l)

theorem ilt_not {l : List (List Int)} {i j : Nat} (h : ilt l i j) : ¬ ilt l j i := by
  have := cmpS_turn (rowAt l i) (rowAt l j)
  unfold ilt at h ⊢
  omega
theorem ilt_tri {l : List (List Int)} {i j : Nat} (h : ¬ ilt l i j) (h2 : ¬ ilt l j i) : i = j := by
  have := cmpS_turn (rowAt l i) (rowAt l j)
  unfold ilt at h h2
  omega
theorem pair_unique {α : Type} {R : α → α → Prop} (ha : ∀ a b, R a b → ¬ R b a) : ∀ (p q : List α), p.Perm q → p.Pairwise R → q.Pairwise R → p = q
  | [], q, hp, _, _ => List.Perm.nil_eq hp
  | a :: p, [], hp, _, _ => by have := hp.length_eq; simp at this
  | a :: p, b :: q, hp, h1, h2 => by
    rw [List.pairwise_cons] at h1 h2
    have hab : a = b := by
      have hA : a ∈ b :: q := hp.mem_iff.1 (List.mem_cons_self ..)
      have hB : b ∈ a :: p := hp.mem_iff.2 (List.mem_cons_self ..)
      rcases List.mem_cons.1 hA with h | hA
      · exact h
      · rcases List.mem_cons.1 hB with h | hB
        · exact h.symm
        · exact absurd (h2.1 a hA) (ha _ _ (h1.1 b hB))
    subst hab
    rw [pair_unique ha p q (List.perm_cons a |>.1 hp) h1.2 h2.2]
theorem place_unique {l : List (List Int)} {n : Nat} {p q : List Nat} (hp : IsPl l n p) (hq : IsPl l n q) : p = q :=
  pair_unique (R := ilt l) (fun _ _ h => ilt_not h) p q (hp.1.trans hq.1.symm) hp.2 hq.2
theorem place_nil (l : List (List Int)) : IsPl l 0 [] := ⟨List.Perm.refl _, List.Pairwise.nil⟩
theorem IsPl.len {l : List (List Int)} {n : Nat} {p : List Nat} (h : IsPl l n p) : p.length = n := by
  have := h.1.length_eq
  simpa using this
theorem IsPl.lt {l : List (List Int)} {n : Nat} {p : List Nat} (h : IsPl l n p) {i : Nat} (hi : i ∈ p) : i < n := by
  simpa using h.1.mem_iff.1 hi
theorem IsPl.nodup {l : List (List Int)} {n : Nat} {p : List Nat} (h : IsPl l n p) : p.Nodup := h.1.nodup_iff.2 List.nodup_range

/-- one more: what stands behind k is behind it, what stands at k - 1 is not. -/
theorem place_put {l : List (List Int)} {n k : Nat} {p : List Nat} (h : IsPl l n p) (hk : k ≤ p.length) (hb : ∀ j, k ≤ j → j < p.length → cmpS (rowAt l n) (rowAt l (p.getD j 0)) < 0)
    (ha : k = 0 ∨ 0 ≤ cmpS (rowAt l n) (rowAt l (p.getD (k - 1) 0))) : IsPl l (n + 1) (p.take k ++ n :: p.drop k) := by
  have gd : ∀ j (hj : j < p.length), p.getD j 0 = p[j] := fun j hj => by rw [List.getD_eq_getElem?_getD, List.getElem?_eq_getElem hj]; rfl
  have hperm : (p.take k ++ n :: p.drop k).Perm (List.range (n + 1)) := by
    rw [List.range_succ]
    refine (List.perm_middle).trans ?_
    rw [List.take_append_drop]
    exact (List.Perm.cons n h.1).trans (List.perm_append_comm (l₁ := [n]) (l₂ := List.range n))
  refine ⟨hperm, ?_⟩
  have hpw := h.2
  rw [← List.take_append_drop k p, List.pairwise_append] at hpw
  obtain ⟨w1, w2, w3⟩ := hpw
  rw [List.pairwise_append]
  have hback : ∀ x ∈ p.drop k, ilt l n x := fun x hx => by
    obtain ⟨j, hj, rfl⟩ := List.getElem_of_mem hx
    have hj' : j < p.length - k := by simpa using hj
    have := hb (k + j) (by omega) (by omega)
    rw [gd (k + j) (by omega)] at this
    rw [List.getElem_drop]
    exact .inl this
  have hfront : ∀ x ∈ p.take k, ilt l x n := fun x hx => by
    obtain ⟨j, hj, rfl⟩ := List.getElem_of_mem hx
    have hj' : j < k := by
      have : j < min k p.length := by simpa using hj
      omega
    rw [List.getElem_take]
    have hlast : cmpS (rowAt l (p[k - 1]'(by omega))) (rowAt l n) ≤ 0 := by
      rcases ha with h0 | h0
      · omega
      · rw [gd (k - 1) (by omega)] at h0
        have := cmpS_turn (rowAt l n) (rowAt l (p[k - 1]'(by omega)))
        omega
    have hxn : p[j]'(by omega) < n := h.lt (List.getElem_mem _)
    have hle : cmpS (rowAt l (p[j]'(by omega))) (rowAt l (p[k - 1]'(by omega))) ≤ 0 := by
      rcases Nat.lt_or_ge j (k - 1) with hjk | hjk
      · have := List.pairwise_iff_getElem.1 h.2 j (k - 1) (by omega) (by omega) hjk
        unfold ilt at this
        omega
      · have e : j = k - 1 := by omega
        subst e
        have := (cmpS_eq (rowAt l (p[k - 1]'(by omega))) (rowAt l (p[k - 1]'(by omega)))).2 rfl
        omega
    have ht := cmpS_trans _ _ _ hle hlast
    unfold ilt
    omega
  exact ⟨w1, List.pairwise_cons.2 ⟨hback, w2⟩, fun x hx y hy => by
    rcases List.mem_cons.1 hy with rfl | hy
    · exact hfront x hx
    · exact w3 x hx y hy⟩

/-- the rows in their order -/
def rowsAt (l : List (List Int)) (p : List Nat) : List (List Int) := p.map (rowAt l)
theorem rowsAt_range (l : List (List Int)) : rowsAt l (List.range l.length) = l := by
  apply List.ext_getElem
  · simp [rowsAt]
  · intro i h1 h2
    simp [rowsAt, rowAt, h2]
theorem rows_perm {l : List (List Int)} {p : List Nat} (h : IsPl l l.length p) : (rowsAt l p).Perm l := by
  have := h.1.map (rowAt l)
  have e := rowsAt_range l
  unfold rowsAt at e ⊢
  rwa [e] at this
theorem rows_sorted {l : List (List Int)} : ∀ {p : List Nat}, p.Pairwise (ilt l) → sortedS (rowsAt l p) = true
  | [], _ => rfl
  | a :: p, h => by
    rw [List.pairwise_cons] at h
    refine sortedS_mk (rows_sorted h.2) fun x hx => ?_
    obtain ⟨b, hb, rfl⟩ := List.mem_map.1 hx
    have := h.1 b hb
    unfold ilt at this
    omega
theorem sorted_place : ∀ (l : List (List Int)), sortedS l = true → (List.range l.length).Pairwise (ilt l) := by
  intro l h
  rw [List.pairwise_iff_getElem]
  intro i j hi hj hij
  simp only [List.length_range] at hi hj
  simp only [List.getElem_range]
  have key : ∀ (l : List (List Int)), sortedS l = true → ∀ i j, i < j → j < l.length → cmpS (rowAt l i) (rowAt l j) ≤ 0 := by
    intro l
    induction l with
    | nil => intro _ i j _ hj; simp at hj
    | cons a r ih =>
      intro h i j hij hj
      have hc := sortedS_cons h
      match i, j, hij, hj with
      | 0, j + 1, _, hj =>
        refine hc.2 (rowAt (a :: r) (j + 1)) ?_
        have hj' : j < r.length := by simpa using hj
        show r.getD j [] ∈ r
        rw [List.getD_eq_getElem?_getD, List.getElem?_eq_getElem hj']
        exact List.getElem_mem hj'
      | i + 1, j + 1, hij, hj => exact ih hc.1 i j (by omega) (by simpa using hj)
  have := key l h i j hij hj
  unfold ilt
  omega
theorem sorted_rows {l : List (List Int)} {p : List Nat} (h : IsPl l l.length p) (hs : sortedS l = true) : rowsAt l p = l := by
  have := place_unique h ⟨List.Perm.refl _, sorted_place l hs⟩
  rw [this, rowsAt_range]
theorem rows_same {l m : List (List Int)} {p q : List Nat} (hp : IsPl l l.length p) (hq : IsPl m m.length q) (h : l.Perm m) : rowsAt l p = rowsAt m q :=
  sorted_same _ _ ((rows_perm hp).trans (h.trans (rows_perm hq).symm)) (rows_sorted hp.2) (rows_sorted hq.2)
theorem rotate_perm {α : Type} (l : List α) (k : Nat) : (l.drop k ++ l.take k).Perm l := by
  have := List.perm_append_comm (l₁ := l.drop k) (l₂ := l.take k)
  rwa [List.take_append_drop] at this
end Go.Proofs.YtidjjaginindoaaGreat
