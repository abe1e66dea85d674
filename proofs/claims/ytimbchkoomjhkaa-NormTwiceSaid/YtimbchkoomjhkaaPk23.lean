/- Several texts in one: IterMarks, ItM8, MapInts. -/
import Derived.Test.YtimbchkoomjhkaaPk22
import Derived.Test.YtimbchkoomjhkaaPk16
import Derived.Maps.Keyed
import Derived.Maps.OwnOps
/-! IterMarks -/
namespace Go.Proofs.Ytimbchkoomjhkaa
open Go.RowKit Go.Shelf

/-- marks of loops that are over, the newest first; none of their blocks is met twice -/
def Marks (base : Nat) (w : World) : List Deferred → Prop
  | [] => True
  | d :: ds => (∃ D, d = { target := .collected D, args := #[] } ∧ base ≤ D ∧ w.heap[D]? = some (.deferred (some [])) ∧ ∀ d' ∈ ds, d' ≠ { target := .collected D, args := #[] }) ∧ Marks base w ds
/-- what is no mark's block may turn -/
theorem Marks.turned {base : Nat} {w w' : World} : ∀ {ds : List Deferred}, Marks base w ds → (∀ D, ({ target := .collected D, args := #[] } : Deferred) ∈ ds → w'.heap[D]? = w.heap[D]?) → Marks base w' ds
  | [], _, _ => trivial
  | d :: ds, ⟨⟨D, hd, hb, hh, hn⟩, ht⟩, h => ⟨⟨D, hd, hb, (h D (by rw [hd]; exact List.mem_cons_self ..)).trans hh, hn⟩, ht.turned fun D' h' => h D' (List.mem_cons_of_mem _ h')⟩
theorem Marks.at {base : Nat} {w : World} : ∀ {ds : List Deferred} {D : Nat}, Marks base w ds → ({ target := .collected D, args := #[] } : Deferred) ∈ ds → base ≤ D ∧ w.heap[D]? = some (.deferred (some []))
  | d :: ds, D, ⟨⟨D', hd, hb, hh, _⟩, ht⟩, h => by
    rcases List.mem_cons.1 h with h | h
    · rw [hd] at h
      cases h
      exact ⟨hb, hh⟩
    · exact ht.at h
/-- cells are turned, and new blocks laid, alone -/
theorem Marks.others {base : Nat} {w w' : World} {ds : List Deferred} (h : Marks base w ds) (hk : KeepsOthers w w') : Marks base w' ds :=
  h.turned fun _ hD => (hk.same _ _ (h.at hD).2 rfl).trans (h.at hD).2.symm
theorem Marks.below {base B : Nat} {w w' : World} {ds : List Deferred} (h : Marks base w ds) (hb : Below B w w') (hB : w.heap.size ≤ B) : Marks base w' ds :=
  h.turned fun D hD => hb.block D (Nat.lt_of_lt_of_le (Array.getElem?_eq_some_iff.1 (h.at hD).2).1 hB)
/-- 'Marks' stands where blocks from B on turn, B being no less than the heap was -/
theorem ownFrom_marks {β : Type} {base B : Nat} {ds : List Deferred} (hlt : ∀ D, ({ target := .collected D, args := #[] } : Deferred) ∈ ds → D < B) : OwnFrom B (fun (_ : β) w => Marks base w ds) := fun _ W W' row hs hg hr => by
  refine hs.turned fun D hD => hg.block D (Array.getElem?_eq_some_iff.1 (hs.at hD).2).1 (fun e => ?_)
  have := (hr D e.symm).1
  have := hlt D hD
  omega
theorem Marks.lt {base : Nat} {w : World} {ds : List Deferred} (h : Marks base w ds) : ∀ D, ({ target := .collected D, args := #[] } : Deferred) ∈ ds → D < w.heap.size := fun _ hD => (Array.getElem?_eq_some_iff.1 (h.at hD).2).1
/-- a loop more -/
theorem Marks.cons {base D : Nat} {w : World} {ds : List Deferred} (h : Marks base w ds) (hb : base ≤ D) (hh : w.heap[D]? = some (.deferred (some []))) (hlt : ∀ D', ({ target := .collected D', args := #[] } : Deferred) ∈ ds → D' < D) : Marks base w ({ target := .collected D, args := #[] } :: ds) :=
  ⟨⟨D, rfl, hb, hh, fun d' hd' e => by
    rw [e] at hd'
    exact Nat.lt_irrefl _ (hlt D hd')⟩, h⟩
/-- cells lie on -/
def KeepCells (w w' : World) : Prop := ∀ (k : Nat) (o : Obj), w.heap[k]? = some o → o.isCells = true → w'.heap[k]? = some o
theorem KeepCells.own {w w' : World} (h : KeepCells w w') {k : IntKind} {e base : Nat} {v : Value} {xs : List Int} (ho : Own k e base w v xs) : Own k e base w' v xs := by
  refine ⟨ho.1, ?_⟩
  rcases ho.2 with hn | ⟨g, cap, cur, hv, hg, hh, r⟩
  · exact .inl hn
  · exact .inr ⟨g, cap, cur, hv, hg, h _ _ hh rfl, r⟩
/-- the return through the marks -/
theorem leaves_marks {F : Fence} {n : Nat} {P : Program} {fn : Func} {tmps : Array Value} {R : Ending → World → Prop} {base : Nat} : ∀ (ds : List Deferred) (w : World), base ≤ w.heap.size → Marks base w ds →
    (∀ w', Below base w w' → KeepCells w w' → LeavesInM F n P fn tmps R [] .returning w') → LeavesInM F n P fn tmps R ds .returning w
  | [], w, _, _, h => h w (Below.refl _ _) (fun _ _ hk _ => hk)
  | d :: ds, w, hw, ⟨⟨D, hd, hb, hh, hn⟩, ht⟩, h => by
    subst hd
    have hlt := (Array.getElem?_eq_some_iff.1 hh).1
    refine ⟨by simp, .inl ⟨D, _, rfl, run_takeDeferred hh, ?_⟩⟩
    have hg := grownBy_putObj' w D (.deferred none)
    have hbel : Below base w (w.putObj D (.deferred none)) := (Below.refl base w).grown hg hw (fun k e => by cases e; exact hb)
    refine leaves_marks ds _ (Nat.le_trans hw hg.size) (ht.turned fun D' hD' => World.putObj_heap_other (fun e => hn _ hD' (by rw [e]))) fun w' hb' hc' => h w' (hbel.trans hb') (fun k o hk ho => hc' k o ?_ ho)
    refine (hg.block k (Array.getElem?_eq_some_iff.1 hk).1 (fun e => ?_)).trans hk
    have e' : k = D := by simpa using e
    rw [e', hh] at hk
    cases hk
    cases ho
end Go.Proofs.Ytimbchkoomjhkaa

/-! ItM8 -/
namespace Go.Proofs.Ytimbchkoomjhkaa
open Go.RowKit Go.Shelf

/-- block b holds cells, and is neither the box B nor the block of the slice in it -/
def FreeOf (B : Nat) (t : TypeId) (W : World) (b : Nat) : Prop := (∃ o : Obj, W.heap[b]? = some o ∧ o.isCells = true) ∧ b ≠ B ∧ ∀ v, Boxed W B t v → some b ≠ v.ownBlock
/-- what a round of the collecting loop keeps -/
def KR (n₀ B : Nat) (t : TypeId) (W W' : World) : Prop := KeepRow n₀ B t W W' ∧ KeepsOthers W W'
theorem KR.refl (n₀ B : Nat) (t : TypeId) (W : World) : KR n₀ B t W W := ⟨KeepRow.refl _ _ _ _, KeepsOthers.refl _⟩
theorem KR.trans {n₀ B : Nat} {t : TypeId} {X Y Z : World} (h : KR n₀ B t X Y) (k : KR n₀ B t Y Z) : KR n₀ B t X Z := ⟨h.1.trans k.1, h.2.trans k.2⟩
theorem KR.free {n₀ B : Nat} {t : TypeId} {W W' : World} (h : KR n₀ B t W W') (hi : InvB B t W) {b : Nat} (hf : FreeOf B t W b) : W'.heap[b]? = W.heap[b]? ∧ FreeOf B t W' b := by
  obtain ⟨v, hv, hr⟩ := hi
  obtain ⟨v', hv', hs, _, hc⟩ := h.1.2 v hv hr
  obtain ⟨⟨o, ho, hcell⟩, hne, hown⟩ := hf
  have hsame := hc b o ho hcell hne (hown v hv)
  refine ⟨hsame.trans ho.symm, ⟨o, hsame, hcell⟩, hne, fun u hu => ?_⟩
  · obtain rfl : u = v' := by
      have := (show W'.heap[B]? = _ from hu).symm.trans hv'
      simpa using this
    rcases hs with hs | ⟨g, hg, hge⟩
    · rw [hs]; exact hown v hv
    · rw [hg]
      intro e
      have := (Array.getElem?_eq_some_iff.1 ho).1
      simp only [Option.some.injEq] at e
      omega

/-- a turn of no cells -/
def NoCells (W : World) (row : Option Nat) : Prop := ∀ r, row = some r → ∃ o : Obj, W.heap[r]? = some o ∧ o.isCells = false
theorem NoCells.none (W : World) : NoCells W none := fun _ e => by cases e
theorem boxed_back {W W' : World} {row : Option Nat} {B : Nat} {t : TypeId} {u v : Value} (hv : Boxed W B t v) (hg : W.grownBy W' row) (hr : NoCells W row) (hu : Boxed W' B t u) : u = v := by
  have h1 := hv.kept hg (fun e => by obtain ⟨o, ho, hc⟩ := hr B e.symm; rw [show W.heap[B]? = _ from hv] at ho; cases ho; cases hc)
  have := (show W'.heap[B]? = _ from hu).symm.trans h1
  simpa using this
theorem boxed_turn {W W' : World} {row : Option Nat} {B : Nat} {t : TypeId} {v : Value} (hv : Boxed W B t v) (hg : W.grownBy W' row) (hr : NoCells W row) : Boxed W' B t v :=
  hv.kept hg (fun e => by obtain ⟨o, ho, hc⟩ := hr B e.symm; rw [show W.heap[B]? = _ from hv] at ho; cases ho; cases hc)
theorem InvB.grown {W W' : World} {row : Option Nat} {B : Nat} {t : TypeId} (hi : InvB B t W) (hg : W.grownBy W' row) (hr : NoCells W row) : InvB B t W' := by
  obtain ⟨v, hv, hb⟩ := hi
  exact ⟨v, boxed_turn hv hg hr, fun r e => Nat.lt_of_lt_of_le (hb r e) hg.size⟩
theorem FreeOf.same {W W' : World} {row : Option Nat} {B : Nat} {t : TypeId} {b : Nat} (hf : FreeOf B t W b) (hg : W.grownBy W' row) (hr : NoCells W row) : W'.heap[b]? = W.heap[b]? := by
  obtain ⟨o, ho, hc⟩ := hf.1
  refine hg.block b (Array.getElem?_eq_some_iff.1 ho).1 (fun e => ?_)
  obtain ⟨o', ho', hc'⟩ := hr b e.symm
  rw [ho] at ho'
  cases ho'
  rw [hc] at hc'
  cases hc'
theorem FreeOf.grown {W W' : World} {row : Option Nat} {B : Nat} {t : TypeId} {b : Nat} (hf : FreeOf B t W b) (hi : InvB B t W) (hg : W.grownBy W' row) (hr : NoCells W row) : FreeOf B t W' b := by
  have hs := hf.same hg hr
  obtain ⟨v, hv, hb⟩ := hi
  obtain ⟨o, ho, hc⟩ := hf.1
  exact ⟨⟨o, hs.trans ho, hc⟩, hf.2.1, fun u hu => by rw [boxed_back hv hg hr hu]; exact hf.2.2 v hv⟩
theorem FreeOf.new {W W' : World} {row : Option Nat} {B : Nat} {t : TypeId} {b : Nat} (hi : InvB B t W) (hg : W.grownBy W' row) (hr : NoCells W row) (h1 : W.heap.size ≤ b) (h2 : ∃ o : Obj, W'.heap[b]? = some o ∧ o.isCells = true) : FreeOf B t W' b := by
  obtain ⟨v, hv, hb⟩ := hi
  refine ⟨h2, fun e => ?_, fun u hu e => ?_⟩
  · have := hv.lt; omega
  · rw [boxed_back hv hg hr hu] at e
    have := hb b e.symm
    omega

/-- a slice that reads as these numbers, its block among the Z -/
def SlZ (Z : Nat → Prop) (W : World) (v : Value) (xs : List Int) : Prop := Sl .i64 W v xs ∧ ∀ a n c, v = .slice (some a) n c → 0 < xs.length → Z a.block
theorem SlZ.move {Z Z' : Nat → Prop} {W W' : World} {v : Value} {xs : List Int} (h : SlZ Z W v xs) (hs : W.heap.size ≤ W'.heap.size) (hz : ∀ b, Z b → W'.heap[b]? = W.heap[b]? ∧ Z' b) : SlZ Z' W' v xs := by
  obtain ⟨⟨a, cap, hv, hl, hm, h⟩, hb⟩ := h
  refine ⟨⟨a, cap, hv, hl, hm, ?_⟩, fun a n c e h0 => (hz _ (hb a n c e h0)).2⟩
  rcases h with h | ⟨b, off, ha, hbb, hc⟩
  · exact .inl h
  · refine .inr ⟨b, off, ha, fun h0 => Nat.lt_of_lt_of_le (hbb h0) hs, fun i hi => ?_⟩
    rw [ha] at hv
    exact (World.cell?_of_block (hz b (hb _ _ _ hv (by omega))).1).trans (hc i hi)
theorem Own.slZ {e base : Nat} {W : World} {v : Value} {xs : List Int} (h : Own .i64 e base W v xs) : SlZ (fun b => base ≤ b ∧ ∃ o : Obj, W.heap[b]? = some o ∧ o.isCells = true) W v xs := by
  refine ⟨h.sl, fun a n c e _ => ?_⟩
  rcases h.2 with ⟨h1, _⟩ | ⟨g, cap, cur, h1, hg, hh, _⟩
  · rw [h1] at e; cases e
  · rw [h1] at e
    cases e
    exact ⟨hg, _, hh, rfl⟩

/-- What is in the map at M: numbers, each with a slice that reads as f says, its block among the Z. -/
def MapZ (f : Int → List Int) (Z : Nat → Prop) (M : Nat) (W : World) : Prop := ∃ es clock, W.heap[M]? = some (.map es clock) ∧ ∀ e ∈ es.toList, ∃ c, e.key = .int .i64 c ∧ inI c = true ∧ SlZ Z W e.val (f c)
theorem MapZ.move {f : Int → List Int} {Z Z' : Nat → Prop} {M : Nat} {W W' : World} (h : MapZ f Z M W) (hs : W.heap.size ≤ W'.heap.size) (hM : W'.heap[M]? = W.heap[M]?) (hz : ∀ b, Z b → W'.heap[b]? = W.heap[b]? ∧ Z' b) : MapZ f Z' M W' := by
  obtain ⟨es, clock, hm, he⟩ := h
  refine ⟨es, clock, hM.trans hm, fun e hin => ?_⟩
  obtain ⟨c, h1, h2, h3⟩ := he e hin
  exact ⟨c, h1, h2, h3.move hs hz⟩
theorem MapZ.lt {f : Int → List Int} {Z : Nat → Prop} {M : Nat} {W : World} (h : MapZ f Z M W) : M < W.heap.size := by
  obtain ⟨es, clock, hm, _⟩ := h
  exact (Array.getElem?_eq_some_iff.1 hm).1
theorem MapZ.nocells {f : Int → List Int} {Z : Nat → Prop} {M : Nat} {W : World} (h : MapZ f Z M W) : NoCells W (some M) := fun r e => by
  cases e
  obtain ⟨es, clock, hm, _⟩ := h
  exact ⟨_, hm, rfl⟩

/-- the memory of a decomposition under way: the collecting loop's variable in box B, the map at M -/
structure MemB (f : Int → List Int) (M B n₀ : Nat) (t : TypeId) (W : World) : Prop where
  size : n₀ ≤ W.heap.size
  above : n₀ ≤ M
  box : InvB B t W
  map : MapZ f (FreeOf B t W) M W
theorem MemB.kr {f : Int → List Int} {M B n₀ : Nat} {t : TypeId} {W W' : World} (h : MemB f M B n₀ t W) (hk : KR n₀ B t W W') : MemB f M B n₀ t W' := by
  refine ⟨Nat.le_trans h.size hk.1.1.size, h.above, hk.1.inv h.box, h.map.move hk.1.1.size ?_ (fun b hb => hk.free h.box hb)⟩
  obtain ⟨es, clock, hm, _⟩ := h.map
  exact (hk.2.same _ _ hm rfl).trans hm.symm
theorem MemB.grown {f : Int → List Int} {M B n₀ : Nat} {t : TypeId} {W W' : World} {row : Option Nat} (h : MemB f M B n₀ t W) (hg : W.grownBy W' row) (hr : NoCells W row) (hne : row ≠ some M) : MemB f M B n₀ t W' := by
  refine ⟨Nat.le_trans h.size hg.size, h.above, h.box.grown hg hr, h.map.move hg.size (hg.block M h.map.lt (fun e => hne e.symm)) (fun b hb => ⟨hb.same hg hr, hb.grown h.box hg hr⟩)⟩

/-- what the iterator may turn between two rounds: the map at M, and what is no cells and was laid since its call began -/
def AbidesM {β : Type} (L M : Nat) (J : β → World → Prop) : Prop :=
  ∀ s W W' row, J s W → W.grownBy W' row → (∀ r, row = some r → (r = M ∨ L ≤ r) ∧ ∃ o : Obj, W.heap[r]? = some o ∧ o.isCells = false) → J s W'
theorem AbidesM.mono {β : Type} {L L' M : Nat} {J : β → World → Prop} (h : AbidesM L M J) (hl : L ≤ L') : AbidesM L' M J := fun s W W' row hs hg hr =>
  h s W W' row hs hg fun r e => ⟨(hr r e).1.imp id (fun h => Nat.le_trans hl h), (hr r e).2⟩
theorem AbidesM.and {β : Type} {L M : Nat} {J J' : β → World → Prop} (h : AbidesM L M J) (h' : AbidesM L M J') : AbidesM L M (fun s W => J s W ∧ J' s W) := fun s W W' row hs hg hr =>
  ⟨h s W W' row hs.1 hg hr, h' s W W' row hs.2 hg hr⟩
theorem AbidesM.fn {β γ : Type} {L M : Nat} {J : γ → World → Prop} (h : AbidesM L M J) (g : β → γ) : AbidesM L M (fun s W => J (g s) W) := fun s W W' row hs hg hr => h (g s) W W' row hs hg hr
theorem AbidesM.alloc {β : Type} {L M : Nat} {J : β → World → Prop} (h : AbidesM L M J) {s : β} {W : World} (hs : J s W) (o : Obj) : J s (W.alloc o) := h s W _ none hs (World.grownBy_alloc W o none) (fun _ e => by cases e)
theorem AbidesM.putObj {β : Type} {L M : Nat} {J : β → World → Prop} (h : AbidesM L M J) {s : β} {W : World} {l : Nat} {o : Obj} (hs : J s W) (o' : Obj) (hl : L ≤ l) (ho : W.heap[l]? = some o) (hc : o.isCells = false) : J s (W.putObj l o') :=
  h s W _ (some l) hs (grownBy_putObj' W l o') (fun r e => by cases e; exact ⟨.inr hl, o, ho, hc⟩)
theorem AbidesM.below {β : Type} {L M : Nat} {J : β → World → Prop} (h : AbidesM L M J) {s : β} {W W' : World} (hs : J s W) (hb : Below W.heap.size W W') : J s W' :=
  h s W W' none hs ⟨hb.os, hb.tape, hb.output, hb.size, fun k hk _ => hb.block k hk⟩ (fun _ e => by cases e)
theorem abidesM_cells {β : Type} {L M : Nat} {J : β → World → Prop} (h : ∀ s W W' row, J s W → W.grownBy W' row → NoCells W row → J s W') : AbidesM L M J := fun s W W' row hs hg hr => h s W W' row hs hg (fun r e => (hr r e).2)
/-- what lies in one block that is no cells, and neither the map nor laid since -/
theorem abidesM_obj {β : Type} {L M D : Nat} {x : Obj} (hD : D < L) (hM : D ≠ M) : AbidesM L M (fun (_ : β) W => W.heap[D]? = some x) := fun _ W W' row hs hg hr => by
  refine (hg.block D (Array.getElem?_eq_some_iff.1 hs).1 (fun e => ?_)).trans hs
  have := (hr D e.symm).1
  omega
theorem abidesM_marks {β : Type} {base L M : Nat} {ds : List Deferred} (hM : M < base) (hlt : ∀ D, ({ target := .collected D, args := #[] } : Deferred) ∈ ds → D < L) : AbidesM L M (fun (_ : β) w => Marks base w ds) := fun _ W W' row hs hg hr => by
  refine hs.turned fun D hD => hg.block D (Array.getElem?_eq_some_iff.1 (hs.at hD).2).1 (fun e => ?_)
  have h1 := (hr D e.symm).1
  have h2 := hlt D hD
  have h3 := (hs.at hD).1
  omega
theorem abidesM_below {β : Type} {n₀ L M : Nat} {w₀ : World} (hn : n₀ ≤ w₀.heap.size) (hL : n₀ ≤ L) (hM : n₀ ≤ M) : AbidesM L M (fun (_ : β) W => Below n₀ w₀ W) :=
  fun _ _ _ _ hs hg hr => hs.grown hg (Nat.le_trans hn hs.size) (fun k e => by have := (hr k e).1; omega)

theorem room_of_none {F : Fence} (hd : F.depth = none) (k : Nat) : F.room k := fun d h => by rw [hd] at h; cases h
theorem round_anyDepth {F : Fence} (hd : F.depth = none) {m m' : Nat} {P : Program} {l : Nat} {f : FuncId} {tmps : Array Value} {assign body : Code} {w : World} {R : Ending → World → Prop}
    (h : RoundIn F m P l f tmps assign body w R) : RoundIn F m' P l f tmps assign body w R := ⟨h.1, fun c cs _ => h.2 c cs (room_of_none hd _)⟩

/-- The contract of an iterator that gives xs: called at yield l, while St and the memory stand. -/
def GivesM (P : Program) (gf : Nat) (lb : Array Value) (f : Int → List Int) (M B n₀ : Nat) (t : TypeId) (St : World → Prop) (xs : List Int) : Prop :=
  ∀ (m l : Nat) (J : List Int → World → Prop) (W : World), AbidesM W.heap.size M J →
    (∀ m' pre x W1, J pre W1 → MemB f M B n₀ t W1 → pre.length < xs.length → YieldAt Fence.wide m' P l #[.int .i64 x] W1 fun e W' => e = .returned (.bool true) ∧ J (pre ++ [x]) W' ∧ KR n₀ B t W1 W') →
    J [] W → St W → MemB f M B n₀ t W →
    CallsIn Fence.wide m P gf (#[.func (.yield l) #[] #[]] ++ lb) W fun e W' => (∃ v, e = .returned v) ∧ J xs W' ∧ MemB f M B n₀ t W'

/-- how a round may end -/
def roundM (n₀ B : Nat) (t : TypeId) (I : List Int → World → Prop) (xs : List Int) (W : World) : Exit → Act → World → Prop
  | .normal, _, W' => KR n₀ B t W W' ∧ I xs W'
  | _, _, _ => False

theorem wpIn_rangeFunc_M {P : Program} {n : Nat} {g : Operand} {ps : Array Tmp} {assign body : Code} {Q : Exit → Act → World → Prop} {a : Act} {w : World}
    {gf : Nat} {lb : Array Value} (hg : a.eval g = .func (.func gf) #[] lb) (eg : ∀ args w, (callFunc gf args).run P w = .ok (.enter gf args) w)
    {f : Int → List Int} {M B n₀ : Nat} {t : TypeId} {St : World → Prop} {xs : List Int} (hseq : GivesM P gf lb f M B n₀ t St xs) (hSt : ∀ o o', St ((w.alloc o).alloc o')) (hmem : MemB f M B n₀ t w) (hps : ps.size = 1)
    (I : List Int → World → Prop) (hI : AbidesM w.heap.size M I) (h0 : I [] w) (a₁ : Int → Act)
    (hassign : ∀ (l : Nat) (x : Int) (W : World) (K : Act → World → Prop), K (a₁ x) W →
      assign.wpIn (Fence.wide.inRound l) (n - 1 - 1) P (Exit.then K (fun _ _ _ => False)) { tmps := (ps.zip #[.int .i64 x]).foldl (fun t (p, v) => t.setIfInBounds p v) a.tmps, defers := [] } W)
    (hbody : ∀ (l : Nat) (pre : List Int) (x : Int) (W : World), I pre W → MemB f M B n₀ t W → pre.length < xs.length → body.wpIn (Fence.wide.inRound l) (n - 1 - 1) P (roundM n₀ B t I (pre ++ [x]) W) (a₁ x) W)
    (hdone : ∀ (D : Nat) (W : World), w.heap.size ≤ D → I xs W → MemB f M B n₀ t W → W.heap[D]? = some (.deferred (some [])) → Q .normal { a with defers := { target := .collected D, args := #[] } :: a.defers } W) :
    (Code.rangeFunc g ps assign body).wpIn Fence.wide n P Q a w := by
  refine wpIn_rangeFunc ?_
  intro fn hfn
  obtain ⟨rec, hrec⟩ : ∃ rec : LoopState → Option Code → Loop, rec = fun st pe => { state := st, pending := pe, fn, tmps := a.tmps, params := ps, assign, body, defers := w.heap.size } := ⟨_, rfl⟩
  obtain ⟨W1, hW1⟩ : ∃ W1, (w.alloc (.deferred (some []))).alloc (.loop (rec .ready none)) = W1 := ⟨_, rfl⟩
  have hL1 : W1.heap[w.heap.size + 1]? = some (.loop (rec .ready none)) := by
    rw [← hW1]; have := World.alloc_heap_new (w.alloc (.deferred (some []))) (.loop (rec .ready none)); rwa [World.size_alloc] at this
  have hK1 : W1.heap[w.heap.size]? = some (.deferred (some [])) := by
    rw [← hW1]; exact (Below.heap_alloc _ _ _ (by simp)).trans (World.alloc_heap_new w _)
  have hI1 : I [] W1 := by rw [← hW1]; exact hI.alloc (hI.alloc h0 _) _
  have hM1 : MemB f M B n₀ t W1 := by
    rw [← hW1]
    exact (hmem.grown (World.grownBy_alloc w _ none) (NoCells.none _) (by simp)).grown (World.grownBy_alloc _ _ none) (NoCells.none _) (by simp)
  have hs1 : W1.heap.size = w.heap.size + 2 := by rw [← hW1]; simp
  have hMlt := hmem.map.lt
  have hnw := hmem.size
  refine ⟨w.heap.size + 1, [{ target := .collected w.heap.size, args := #[] }], W1, { target := .fn (.func gf) lb, args := #[.func (.yield (w.heap.size + 1)) #[] #[]] }, W1, gf,
    #[.func (.yield (w.heap.size + 1)) #[] #[]] ++ lb, W1, ?_, ?_, ?_, ?_, fun h => (by cases h), ?_⟩
  · rw [← hW1, hrec]; exact run_enterLoop_outer _ _ _ _ _
  · simp only [resolve, hg]
    simp [go_sem]
  · intro f' hf'; trivial
  · simp [invoke, go_sem, eg]
  · refine (hseq (n - 1) (w.heap.size + 1)
      (fun pre W => I pre W ∧ W.heap[w.heap.size + 1]? = some (.loop (rec .ready none)) ∧ W.heap[w.heap.size]? = some (.deferred (some [])))
      W1 ((hI.mono (by omega)).and ((abidesM_obj (by omega) (by omega)).and (abidesM_obj (by omega) (by omega)))) ?_ ⟨hI1, hL1, hK1⟩ (by rw [← hW1]; exact hSt _ _) hM1).mono ?_
    · rintro m' pre x W ⟨hi, hl, hk⟩ hm hlen
      have hy := run_yield (P := P) (args := #[.int .i64 x]) hl (by rw [hrec]; simp [hps])
      rw [hrec] at hy
      refine ⟨fn, _, assign, body, hy, round_anyDepth rfl (m := n - 1 - 1) (roundIn_of_wpIn hfn (hassign _ x W _ ⟨_, run_beginRound hl (by rw [hrec]), ?_⟩))⟩
      have hl2 : (W.putObj (w.heap.size + 1) (.loop { rec .ready none with state := .busy })).heap[w.heap.size + 1]? = some (.loop { rec .ready none with state := .busy }) := World.putObj_heap_same (Array.getElem?_eq_some_iff.1 hl).1
      have hk2 : (W.putObj (w.heap.size + 1) (.loop { rec .ready none with state := .busy })).heap[w.heap.size]? = some (.deferred (some [])) := (World.putObj_heap_other (by omega)).trans hk
      have hrow : KeepRow n₀ B t W (W.putObj (w.heap.size + 1) (.loop { rec .ready none with state := .busy })) := keepRow_putObj (m := w.heap.size) hnw _ _ _ _ (by omega) hl rfl
      have hm2 : MemB f M B n₀ t (W.putObj (w.heap.size + 1) (.loop { rec .ready none with state := .busy })) := hm.grown (grownBy_putObj' W _ _) (fun r e => by cases e; exact ⟨_, hl, rfl⟩) (by simp; omega)
      refine wpIn_mono (hbody _ pre x _ (hI.putObj hi _ (by omega) hl rfl) hm2 hlen) ?_
      rintro e a3 W3 hp
      cases e with
      | normal =>
        obtain ⟨hk3, hi3⟩ := hp
        have hl3 := hk3.2.same _ _ hl2 rfl
        have hr3 := run_endRound (P := P) none hl3
        have e3 : (Loop.mk .ready none fn a.tmps ps assign body w.heap.size) = rec .ready none := by rw [hrec]
        refine ⟨_, _, hr3, rfl, ⟨hI.putObj hi3 _ (by omega) hl3 rfl, ?_, (World.putObj_heap_other (by omega)).trans (hk3.2.same _ _ hk2 rfl)⟩, (hrow.trans hk3.1).trans (keepRow_putObj (m := w.heap.size) hnw _ _ _ _ (by omega) hl3 rfl), ?_, ?_⟩
        · rw [World.putObj_heap_same (Array.getElem?_eq_some_iff.1 hl3).1]
          rw [hrec]
          rfl
        · exact Nat.le_trans (Nat.le_trans (grownBy_putObj' W _ _).size hk3.2.size) (grownBy_putObj' W3 _ _).size
        · intro k o hko hoc
          by_cases hkl : k = w.heap.size + 1
          · subst hkl
            rw [hl] at hko
            cases hko
            rw [World.putObj_heap_same (Array.getElem?_eq_some_iff.1 hl3).1, hrec]
            rfl
          · exact (World.putObj_heap_other hkl).trans (hk3.2.same k o ((World.putObj_heap_other hkl).trans hko) hoc)
      | ret => exact hp.elim
      | exit id => exact hp.elim
      | goto t => exact hp.elim
      | panic ch => exact hp.elim
      | outgrown => exact hp.elim
    · rintro e W2 ⟨⟨v, rfl⟩, ⟨hi, hl, hk⟩, hm⟩
      exact ⟨none, _, by have := run_endLoop (P := P) hl (by rw [hrec]; simp); rw [hrec] at this; exact this, hdone _ _ (Nat.le_refl _) (hI.putObj hi _ (by omega) hl rfl) (hm.grown (grownBy_putObj' W2 _ _) (fun r e => by cases e; exact ⟨_, hl, rfl⟩) (by simp; omega)) ((World.putObj_heap_other (by omega)).trans hk)⟩
end Go.Proofs.Ytimbchkoomjhkaa

/-! MapInts -/
namespace Go.Proofs.Ytimbchkoomjhkaa
open Go.RowKit Go.Shelf

def IntKeys (es : Array MapEntry) : Prop := ∀ e ∈ es.toList, ∃ c, e.key = .int .i64 c ∧ inI c = true
theorem wf_int {c : Int} (h : inI c = true) : (Lit.int .i64 c).wf = true := by
  unfold inI at h
  rw [decide_eq_true_iff] at h
  simpa [Lit.wf, IntKind.min, IntKind.max, IntKind.signed, IntKind.bits] using h
theorem look_ints {P : Program} {W : World} {T k e : TypeId} (ht : P.underlying T = some (.map k e)) (hk : P.underlying k = some (.int .i64)) {z : Value} (hz : (zeroValue e).run P W = .ok z W) {M : Nat} {es : Array MapEntry} {clock : Nat}
    (hM : W.heap[M]? = some (.map es clock)) (hes : IntKeys es) {c : Int} (hc : inI c = true) :
    (Instr.lookup T (.map (some M)) (.int .i64 c) true).run P W = .ok (.tuple #[z, .bool false]) W ∨ ∃ e0 ∈ es.toList, e0.key = .int .i64 c ∧ (Instr.lookup T (.map (some M)) (.int .i64 c) true).run P W = .ok (.tuple #[e0.val, .bool true]) W := by
  have K : Maps.Keyed P k := Maps.int_keyed hk
  have hkey := Maps.keyOf_int_mk hk (wf_int hc)
  rcases K.find W hkey es.toList (fun x hx => by obtain ⟨c', h1, h2⟩ := hes x hx; exact ⟨_, by rw [h1]; exact Maps.keyOf_int_mk hk (wf_int h2)⟩) with ⟨h1, _⟩ | ⟨j, e0, h1, h2, h3⟩
  · exact .inl (by simp [Instr.lookup, run_underlying ht, MapKept.run_getObj_map hM, K.check W _ hkey, h1, hz, Result.andThen])
  · exact .inr ⟨e0, List.mem_of_getElem? h2, h3, by simp [Instr.lookup, run_underlying ht, MapKept.run_getObj_map hM, K.check W _ hkey, h1, Result.andThen]⟩
theorem store_ints {P : Program} {W : World} {T k e : TypeId} (ht : P.underlying T = some (.map k e)) (hk : P.underlying k = some (.int .i64)) {M : Nat} {es : Array MapEntry} {clock : Nat}
    (hM : W.heap[M]? = some (.map es clock)) (hes : IntKeys es) {c : Int} (hc : inI c = true) (val : Value) :
    ∃ W', (Instr.mapUpdate T (.map (some M)) (.int .i64 c) val).run P W = .ok () W' ∧ W.grownBy W' (some M) ∧ ∃ es' clock', W'.heap[M]? = some (.map es' clock') ∧ ∀ x ∈ es'.toList, x ∈ es.toList ∨ (x.key = .int .i64 c ∧ x.val = val) := by
  have K : Maps.Keyed P k := Maps.int_keyed hk
  have hkey := Maps.keyOf_int_mk hk (wf_int hc)
  have grown : ∀ o, W.grownBy (ChangeMaps.setBlock W M o) (some M) := fun o => ⟨rfl, rfl, rfl, by simp [ChangeMaps.setBlock], fun i _ hi => ChangeMaps.heap_setBlock_other hM _ (fun e => hi (by rw [e]))⟩
  rcases K.find W hkey es.toList (fun x hx => by obtain ⟨c', h1, h2⟩ := hes x hx; exact ⟨_, by rw [h1]; exact Maps.keyOf_int_mk hk (wf_int h2)⟩) with ⟨h1, _⟩ | ⟨j, e0, h1, h2, h3⟩
  · refine ⟨_, by simp [Instr.mapUpdate, run_underlying ht, MapKept.run_getObj_map hM, K.check W false hkey, h1, MapKept.run_setObj_map _ hM, Result.andThen]; rfl, grown _, _, _, ChangeMaps.heap_setBlock_same hM _, fun x hx => ?_⟩
    simp only [Array.toList_push, List.mem_append, List.mem_singleton] at hx
    rcases hx with hx | rfl
    · exact .inl hx
    · exact .inr ⟨rfl, rfl⟩
  · have hj : es[j]? = some e0 := by simpa using h2
    have hst := K.stays W hkey
    refine ⟨_, by simp [Instr.mapUpdate, run_underlying ht, MapKept.run_getObj_map hM, K.check W false hkey, h1, hj, h3, hst, MapKept.run_setObj_map _ hM, Result.andThen]; rfl, grown _, _, _, ChangeMaps.heap_setBlock_same hM _, fun x hx => ?_⟩
    rw [Array.toList_modify, ChangeMaps.modify_eq_set _ _ _ _ h2] at hx
    rcases List.mem_or_eq_of_mem_set hx with hx | rfl
    · exact .inl hx
    · exact .inr ⟨rfl, rfl⟩
theorem wpList_lookInts {P : Program} {w : World} {ops : Array Oper} {rest : List Oper} {o : Oper} {a : Act} {Q : Exit → Act → World → Prop}
    (hg : o.guard = none) (m x : Operand) (T : TypeId) (hop : o.op = Op.lookup T m x true) (M : Nat) (c : Int) (hm : a.eval m = .map (some M)) (hx : a.eval x = .int .i64 c) {r : Value}
    (hrun : (Instr.lookup T (.map (some M)) (.int .i64 c) true).run P w = .ok r w) (hK : wpList P ops Q rest (a.put o.dst r) w) : wpList P ops Q (o :: rest) a w := by
  refine wpList_plain hg fun K' hK' => ?_
  unfold Oper.wp
  simp [execOp, hop, hm, hx, hrun, Result.andThen]
  exact hK' _ _ hK
theorem wpList_storeInts {P : Program} {w : World} {ops : Array Oper} {rest : List Oper} {o : Oper} {a : Act} {Q : Exit → Act → World → Prop}
    (hg : o.guard = none) (m x y : Operand) (T : TypeId) (hop : o.op = Op.mapUpdate T m x y) (M : Nat) (c : Int) (val : Value) (hm : a.eval m = .map (some M)) (hx : a.eval x = .int .i64 c) (hy : a.eval y = val) {w' : World}
    (hrun : (Instr.mapUpdate T (.map (some M)) (.int .i64 c) val).run P w = .ok () w') (hK : wpList P ops Q rest (a.put o.dst undef) w') : wpList P ops Q (o :: rest) a w := by
  refine wpList_plain hg fun K' hK' => ?_
  unfold Oper.wp
  simp [execOp, hop, hm, hx, hy, hrun, Result.andThen]
  exact hK' _ _ hK
end Go.Proofs.Ytimbchkoomjhkaa
