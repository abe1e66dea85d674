/- Several texts in one: MapRows, AnyH, RowOps. -/
import Derived.Test.YtimbchkoomjhkaaPk23
import Derived.Test.YtimbchkoomjhkaaPk33
import Derived.Test.YtimbchkoomjhkaaPk22
import Derived.Test.YtimbchkoomjhkaaPk3
import Derived.Test.YtimbchkoomjhkaaPk8
import Derived.OrdersHeld
/-! MapRows -/
namespace Go.Proofs.Ytimbchkoomjhkaa
open Go.RowKit Go.Shelf

/-- number keys, each once -/
def KeysI (es : Array MapEntry) : Prop := IntKeys es ∧ (es.toList.map MapEntry.key).Nodup
/-- the entries of other keys than c: each row reads as f says, none shares its block with another or with v -/
def OthersI (f : Int → List Int) (base : Nat) (c : Int) (v : Value) (w : World) (es : Array MapEntry) : Prop :=
  (∀ e ∈ es.toList, ∀ d, e.key = .int .i64 d → d ≠ c → Own .i64 3 base w e.val (f d) ∧ Apt v e.val) ∧
  (∀ e ∈ es.toList, ∀ e' ∈ es.toList, e.key ≠ .int .i64 c → e'.key ≠ .int .i64 c → e.key ≠ e'.key → Apt e.val e'.val)
/-- the map at M: what is told of all keys but c, whose row v is at hand -/
def LooseR (f : Int → List Int) (base : Nat) (c : Int) (v : Value) (M : Nat) (w : World) : Prop :=
  ∃ es clock, w.heap[M]? = some (.map es clock) ∧ KeysI es ∧ OthersI f base c v w es ∧ ∀ d, d ≠ c → (∀ e ∈ es.toList, e.key ≠ .int .i64 d) → f d = []
/-- the map at M: each number's row reads as f says -/
def RowsM (f : Int → List Int) (base M : Nat) (w : World) : Prop :=
  ∃ es clock, w.heap[M]? = some (.map es clock) ∧ KeysI es ∧ (∀ e ∈ es.toList, ∀ d, e.key = .int .i64 d → Own .i64 3 base w e.val (f d)) ∧
    (∀ e ∈ es.toList, ∀ e' ∈ es.toList, e.key ≠ e'.key → Apt e.val e'.val) ∧ ∀ d, (∀ e ∈ es.toList, e.key ≠ .int .i64 d) → f d = []
theorem RowsM.lt {f : Int → List Int} {base M : Nat} {w : World} (h : RowsM f base M w) : M < w.heap.size := by
  obtain ⟨es, clock, hm, -⟩ := h
  exact (Array.getElem?_eq_some_iff.1 hm).1
theorem RowsM.below {f : Int → List Int} {base M : Nat} {w w' : World} (h : RowsM f base M w) (hb : Below w.heap.size w w') : RowsM f base M w' := by
  have hl := h.lt
  obtain ⟨es, clock, hm, h1, h2, h3, h4⟩ := h
  exact ⟨es, clock, (hb.block M hl).trans hm, h1, fun e he d hd => (h2 e he d hd).below hb, h3, h4⟩
theorem RowsM.nil {base M clock : Nat} {w : World} (h : w.heap[M]? = some (.map #[] clock)) : RowsM (fun _ => []) base M w :=
  ⟨_, _, h, ⟨fun e he => by simp at he, by simp⟩, fun e he => by simp at he, fun e he => by simp at he, fun _ _ => rfl⟩
theorem RowsM.congr {f g : Int → List Int} {base M : Nat} {w : World} (h : RowsM f base M w) (e : ∀ c, f c = g c) : RowsM g base M w := by
  obtain rfl : f = g := funext e
  exact h
/-- a world in which one row has grown, or blocks were laid -/
theorem RowsM.nobox {f : Int → List Int} {base M B : Nat} {w : World} {t : TypeId} {cs : List Value} (h : RowsM f base M w) (hb : Box t cs B w) : B ≠ M := fun e => by
  obtain ⟨es, clock, hm, -⟩ := h
  subst e
  unfold Box at hb
  rw [hm] at hb
  cases hb
theorem LooseR.nobox {f : Int → List Int} {base M B : Nat} {c : Int} {v : Value} {w : World} {t : TypeId} {cs : List Value} (h : LooseR f base c v M w) (hb : Box t cs B w) : B ≠ M := fun e => by
  obtain ⟨es, clock, hm, -⟩ := h
  subst e
  unfold Box at hb
  rw [hm] at hb
  cases hb
theorem LooseR.norow {f : Int → List Int} {base M : Nat} {c : Int} {v u : Value} {w : World} {xs : List Int} (h : LooseR f base c v M w) (ho : Own .i64 3 base w u xs) : u.ownBlock ≠ some M := fun e => by
  obtain ⟨es, clock, hm, -⟩ := h
  rcases ho.2 with ⟨rfl, -⟩ | ⟨g, cap, cur, rfl, -, hh, -⟩
  · simp [Value.ownBlock] at e
  · have e' : g = M := by simpa [Value.ownBlock] using e
    subst e'
    rw [hm] at hh
    cases hh
theorem key_once {l : List MapEntry} (h : (l.map MapEntry.key).Nodup) {x y : MapEntry} (hx : x ∈ l) (hy : y ∈ l) (e : x.key = y.key) : x = y := by
  induction l with
  | nil => cases hx
  | cons z l ih =>
    rw [List.map_cons, List.nodup_cons] at h
    rcases List.mem_cons.1 hx with h1 | h1 <;> rcases List.mem_cons.1 hy with h2 | h2
    · rw [h1, h2]
    · exact absurd (List.mem_map.2 ⟨y, h2, by rw [← e, h1]⟩) h.1
    · exact absurd (List.mem_map.2 ⟨x, h1, by rw [e, h2]⟩) h.1
    · exact ih h.2 h1 h2
theorem rowsM_look {P : Program} {T k e : TypeId} {f : Int → List Int} {base M : Nat} {w : World} (h : RowsM f base M w) (ht : P.underlying T = some (.map k e)) (hk : P.underlying k = some (.int .i64)) (hz : ∀ w', (zeroValue e).run P w' = .ok (.slice none 0 0) w') {c : Int} (hc : inI c = true) :
    ∃ v, (∀ w', w'.heap[M]? = w.heap[M]? → (Instr.lookup T (.map (some M)) (.int .i64 c) false).run P w' = .ok v w') ∧ Own .i64 3 base w v (f c) ∧ LooseR f base c v M w := by
  obtain ⟨es, clock, hM, ⟨hes, hnd⟩, h2, h3, h4⟩ := h
  have K : Maps.Keyed P k := Maps.int_keyed hk
  have hkey := Maps.keyOf_int_mk hk (wf_int hc)
  have hks : ∀ x ∈ es.toList, ∃ l, keyOf P k x.key = some l := fun x hx => by
    obtain ⟨c', h1, h2⟩ := hes x hx
    exact ⟨_, by rw [h1]; exact Maps.keyOf_int_mk hk (wf_int h2)⟩
  by_cases hin : ∃ e ∈ es.toList, e.key = .int .i64 c
  · obtain ⟨e0, hm0, hk0⟩ := hin
    refine ⟨e0.val, fun w' hw' => ?_, h2 e0 hm0 c hk0, es, clock, hM, ⟨hes, hnd⟩, ⟨fun e he d hd hdc => ⟨h2 e he d hd, h3 e0 hm0 e he (by rw [hk0, hd]; simpa using fun e => hdc e.symm)⟩, fun e he e' he' _ _ hne => h3 e he e' he' hne⟩, fun d _ hd => h4 d hd⟩
    rcases K.find w' hkey es.toList hks with ⟨g1, gn⟩ | ⟨j, e1, g1, g2, g3⟩
    · exact absurd hk0 (gn e0 hm0)
    · obtain rfl : e1 = e0 := key_once hnd (List.mem_of_getElem? g2) hm0 (g3.trans hk0.symm)
      simp [Instr.lookup, run_underlying ht, MapKept.run_getObj_map (hw'.trans hM), K.check w' _ hkey, g1, Result.andThen]
  · have hno : ∀ e ∈ es.toList, e.key ≠ .int .i64 c := fun e he h => hin ⟨e, he, h⟩
    refine ⟨.slice none 0 0, fun w' hw' => ?_, ?_, es, clock, hM, ⟨hes, hnd⟩, ⟨fun e he d hd _ => ⟨h2 e he d hd, Apt.nil _⟩, fun e he e' he' _ _ hne => h3 e he e' he' hne⟩, fun d _ hd => h4 d hd⟩
    · rcases K.find w' hkey es.toList hks with ⟨g1, gn⟩ | ⟨j, e1, g1, g2, g3⟩
      · simp [Instr.lookup, run_underlying ht, MapKept.run_getObj_map (hw'.trans hM), K.check w' _ hkey, g1, hz, Result.andThen]
      · exact absurd g3 (hno e1 (List.mem_of_getElem? g2))
    · rw [h4 c hno]
      exact Own.nil _ _ _ _
/-- the row at hand has grown -/
theorem LooseR.grown {f : Int → List Int} {base M : Nat} {c : Int} {v v' : Value} {w w' : World} {xs : List Int} (h : LooseR f base c v M w) (ho : Own .i64 3 base w v xs) (hg : w.grownBy w' v.ownBlock)
    (hx : ∀ z zs, Own .i64 3 base w z zs → Apt v z → Own .i64 3 base w' z zs ∧ Apt v' z) : LooseR f base c v' M w' := by
  have hno := h.norow ho
  obtain ⟨es, clock, hM, hk, ⟨h1, h2⟩, h3⟩ := h
  refine ⟨es, clock, (hg.block M (Array.getElem?_eq_some_iff.1 hM).1 (fun e => hno e.symm)).trans hM, hk, ⟨fun e he d hd hdc => ?_, h2⟩, h3⟩
  obtain ⟨a, b⟩ := h1 e he d hd hdc
  exact hx _ _ a b
theorem LooseR.below {f : Int → List Int} {base M : Nat} {c : Int} {v : Value} {w w' : World} (h : LooseR f base c v M w) (hb : Below w.heap.size w w') : LooseR f base c v M w' := by
  obtain ⟨es, clock, hM, hk, ⟨h1, h2⟩, h3⟩ := h
  exact ⟨es, clock, (hb.block M (Array.getElem?_eq_some_iff.1 hM).1).trans hM, hk, ⟨fun e he d hd hdc => ⟨(h1 e he d hd hdc).1.below hb, (h1 e he d hd hdc).2⟩, h2⟩, h3⟩
/-- what one block's turn leaves of a row elsewhere -/
theorem Own.turned {base M : Nat} {w w' : World} {v : Value} {xs : List Int} (h : Own .i64 3 base w v xs) (hn : v.ownBlock ≠ some M) (hg : w.grownBy w' (some M)) : Own .i64 3 base w' v xs :=
  World.ownsRow.kept h hg (.inr hn)
theorem Own.lt_ne {base : Nat} {w : World} {v : Value} {xs : List Int} {B : Nat} {t : TypeId} {cs : List Value} (h : Own .i64 3 base w v xs) (hb : Box t cs B w) (ht : t ≠ 3) : v.ownBlock ≠ some B := fun e => h.other hb ht e.symm
theorem looseR_store {P : Program} {T k e : TypeId} {f : Int → List Int} {base M : Nat} {w : World} {c : Int} {v : Value} {l : List Int} (h : LooseR f base c v M w) (ho : Own .i64 3 base w v l) (ht : P.underlying T = some (.map k e)) (hk : P.underlying k = some (.int .i64)) (hc : inI c = true) :
    ∃ w', (Instr.mapUpdate T (.map (some M)) (.int .i64 c) v).run P w = .ok () w' ∧ w.grownBy w' (some M) ∧ RowsM (fun x => if x = c then l else f x) base M w' := by
  have hno := fun {u : Value} {xs : List Int} => h.norow (u := u) (xs := xs)
  obtain ⟨es, clock, hM, ⟨hes, hnd⟩, ⟨h1, h2⟩, h3⟩ := h
  have K : Maps.Keyed P k := Maps.int_keyed hk
  have hkey := Maps.keyOf_int_mk hk (wf_int hc)
  have grown : ∀ o, w.grownBy (ChangeMaps.setBlock w M o) (some M) := fun o => ⟨rfl, rfl, rfl, by simp [ChangeMaps.setBlock], fun i _ hi => ChangeMaps.heap_setBlock_other hM _ (fun e => hi (by rw [e]))⟩
  have hkd : ∀ {a b : Int}, Value.int .i64 a = Value.int .i64 b → a = b := fun h => by simpa using h
  have key : ∀ (o : Obj) (es' : Array MapEntry) (clock' : Nat), (ChangeMaps.setBlock w M o).heap[M]? = some (.map es' clock') → (∀ x ∈ es'.toList, (x ∈ es.toList ∧ x.key ≠ .int .i64 c) ∨ (x.key = .int .i64 c ∧ x.val = v)) → (∀ x ∈ es.toList, ∃ y ∈ es'.toList, y.key = x.key) → (∃ y ∈ es'.toList, y.key = .int .i64 c) → (es'.toList.map MapEntry.key).Nodup →
      RowsM (fun x => if x = c then l else f x) base M (ChangeMaps.setBlock w M o) := fun o es' clock' hM' hx hy hyc hnd' => by
    refine ⟨es', clock', hM', ⟨fun x hx' => ?_, hnd'⟩, fun x hx' d hd => ?_, fun x hx' x' hx'' hne => ?_, fun d hd => ?_⟩
    · rcases hx x hx' with ⟨h, -⟩ | ⟨h, -⟩
      · exact hes x h
      · exact ⟨c, h, hc⟩
    · rcases hx x hx' with ⟨h, hn⟩ | ⟨h, hv⟩
      · have hdc : d ≠ c := fun e => hn (by rw [hd, e])
        have ha := (h1 x h d hd hdc).1
        simp only [if_neg hdc]
        exact ha.turned (hno ha) (grown o)
      · obtain rfl := hkd (hd.symm.trans h)
        simp only [if_true]
        rw [hv]
        exact ho.turned (hno ho) (grown o)
    · rcases hx x hx' with ⟨h, hn⟩ | ⟨h, hv⟩ <;> rcases hx x' hx'' with ⟨h', hn'⟩ | ⟨h', hv'⟩
      · exact h2 x h x' h' hn hn' hne
      · obtain ⟨d, hd, -⟩ := hes x h
        rw [hv']
        exact (h1 x h d hd (fun e => hn (by rw [hd, e]))).2.turn
      · obtain ⟨d, hd, -⟩ := hes x' h'
        rw [hv]
        exact (h1 x' h' d hd (fun e => hn' (by rw [hd, e]))).2
      · exact absurd (h.trans h'.symm) hne
    · have hdc : d ≠ c := fun e => by
        obtain ⟨y, hy1, hy2⟩ := hyc
        exact hd y hy1 (by rw [hy2, e])
      simp only [if_neg hdc]
      exact h3 d hdc fun x hx' e => by
        obtain ⟨y, hy1, hy2⟩ := hy x hx'
        exact hd y hy1 (hy2.trans e)
  rcases K.find w hkey es.toList (fun x hx => by obtain ⟨c', h1, h2⟩ := hes x hx; exact ⟨_, by rw [h1]; exact Maps.keyOf_int_mk hk (wf_int h2)⟩) with ⟨g1, gn⟩ | ⟨j, e0, g1, g2, g3⟩
  · refine ⟨_, by simp [Instr.mapUpdate, run_underlying ht, MapKept.run_getObj_map hM, K.check w false hkey, g1, MapKept.run_setObj_map _ hM, Result.andThen]; rfl, grown _, key _ _ _ (ChangeMaps.heap_setBlock_same hM _) (fun x hx => ?_) (fun x hx => ?_) ?_ ?_⟩
    · simp only [Array.toList_push, List.mem_append, List.mem_singleton] at hx
      rcases hx with hx | rfl
      · exact .inl ⟨hx, fun e => gn x hx e⟩
      · exact .inr ⟨rfl, rfl⟩
    · exact ⟨x, by simp [hx], rfl⟩
    · exact ⟨⟨.int .i64 c, v, _⟩, by simp; exact .inr rfl, rfl⟩
    · rw [Array.toList_push, List.map_append, List.nodup_append]
      refine ⟨hnd, by simp, fun a ha b hb => ?_⟩
      simp only [List.map_cons, List.map_nil, List.mem_singleton] at hb
      obtain ⟨x, hx, rfl⟩ := List.mem_map.1 ha
      rw [hb]
      exact fun e => gn x hx e
  · have hj : es[j]? = some e0 := by simpa using g2
    have hst := K.stays w hkey
    have hjl : j < es.toList.length := (List.getElem?_eq_some_iff.1 g2).1
    refine ⟨_, by simp [Instr.mapUpdate, run_underlying ht, MapKept.run_getObj_map hM, K.check w false hkey, g1, hj, g3, hst, MapKept.run_setObj_map _ hM, Result.andThen]; rfl, grown _, key _ _ _ (ChangeMaps.heap_setBlock_same hM _) (fun x hx => ?_) (fun x hx => ?_) ?_ ?_⟩
    · rw [Array.toList_modify, ChangeMaps.modify_eq_set _ _ _ _ g2] at hx
      obtain ⟨i, hi, rfl⟩ := List.getElem_of_mem hx
      rw [List.length_set] at hi
      by_cases hij : j = i
      · subst hij
        rw [List.getElem_set_self]
        exact .inr ⟨rfl, rfl⟩
      · rw [List.getElem_set_ne hij]
        refine .inl ⟨List.getElem_mem _, fun e => hij ?_⟩
        have h5 : (es.toList.map MapEntry.key)[i]'(by simpa using hi) = (es.toList.map MapEntry.key)[j]'(by simpa using hjl) := by
          rw [List.getElem_map, List.getElem_map, e, ← g3]
          congr 1
          exact (Option.some.inj ((List.getElem?_eq_getElem hjl).symm.trans g2)).symm
        have h6 := List.pairwise_iff_getElem.1 hnd
        rcases Nat.lt_trichotomy i j with h7 | h7 | h7
        · exact absurd h5 (h6 i j _ _ h7)
        · exact h7.symm
        · exact absurd h5.symm (h6 j i _ _ h7)
    · rw [Array.toList_modify, ChangeMaps.modify_eq_set _ _ _ _ g2]
      obtain ⟨i, hi, rfl⟩ := List.getElem_of_mem hx
      by_cases hij : j = i
      · subst hij
        refine ⟨_, List.mem_of_getElem? (i := j) (List.getElem?_set_self hi), ?_⟩
        have : es.toList[j] = e0 := Option.some.inj ((List.getElem?_eq_getElem hi).symm.trans g2)
        rw [this]
        exact g3.symm
      · exact ⟨_, List.mem_of_getElem? (i := i) (by rw [List.getElem?_set_ne hij, List.getElem?_eq_getElem hi]), rfl⟩
    · rw [Array.toList_modify, ChangeMaps.modify_eq_set _ _ _ _ g2]
      exact ⟨_, List.mem_of_getElem? (i := j) (List.getElem?_set_self hjl), rfl⟩
    · rw [Array.toList_modify, ChangeMaps.modify_eq_set _ _ _ _ g2, List.map_set]
      have e : (es.toList.map MapEntry.key).set j (.int .i64 c) = es.toList.map MapEntry.key := by
        apply List.ext_getElem (by simp)
        intro i h1 h2
        by_cases hij : j = i
        · subst hij
          rw [List.getElem_set_self, List.getElem_map, ← g3]
          congr 1
          exact (Option.some.inj ((List.getElem?_eq_getElem (by simpa using h2)).symm.trans g2)).symm
        · rw [List.getElem_set_ne hij]
      first | exact e ▸ hnd | (simp only []; rw [e]; exact hnd)
/-- append(v, y) of a number that was just laid, as an operation -/
theorem exec_appOne {a : Act} {w : World} {o : Oper} {s x : Operand} (hop : o.op = .call { callee := .builtin .append, args := #[s, x], argTypes := #[22, 22] }) {base : Nat} {v : Value} {xs : List Int} (hs : a.eval s = v) (hown : Own .i64 3 base w v xs)
    {b : Nat} {y : Int} (hx : a.eval x = .slice (some ⟨b, 0, none⟩) 1 1) (hc : w.cell? ⟨b, 0, none⟩ = some (.int .i64 y)) (hl : xs.length + 1 ≤ 1000000) (hbase : base ≤ w.heap.size) :
    ∃ v' w', (execOp a.eval o).run Try.prog w = .ok (.value v') w' ∧ Own .i64 3 base w' v' (xs ++ [y]) ∧ w.grownBy w' v.ownBlock ∧ ∀ z zs, Own .i64 3 base w z zs → Apt v z → Own .i64 3 base w' z zs ∧ Apt v' z := by
  obtain ⟨i, hi, hz0, hz1, hz2⟩ := info_parts Try.infoI64
  have hnews : ∀ (j : Nat) (u : Value), ([Value.int .i64 y])[j]? = some u → w.cell? ((⟨b, 0, none⟩ : Addr).add j) = some u := fun j u hj => by
    cases j with
    | zero => simp at hj; rw [← hj]; exact hc
    | succ j => simp at hj
  have h1c : ∀ u ∈ [Value.int .i64 y], u.oneCell' = true := fun u hu => by
    simp only [List.mem_singleton] at hu
    subst hu
    rfl
  have h63 : xs.length + 1 ≤ maxLen := by unfold maxLen; omega
  obtain ⟨v', w', hrun, hown', hg, -⟩ := run_append_own (P := Try.prog) w base 22 o.type 3 i (.int .i64 0) 1 8 Try.underlying22 hi hz0 hz1 hz2 rfl (by decide) v xs.length (xs.map (Value.int .i64)) hown ⟨b, 0, none⟩ 1 1 [.int .i64 y] rfl hnews h1c h63 (by omega) hbase
  have hmv := append_moves (P := Try.prog) w base 22 o.type 3 i (.int .i64 0) 1 8 Try.underlying22 hi hz0 hz1 hz2 rfl (by decide) v xs.length (xs.map (Value.int .i64)) hown ⟨b, 0, none⟩ 1 1 [.int .i64 y] rfl hnews h1c h63 (by omega) v' w' hrun
  refine ⟨v', w', ?_, by simpa [Own] using hown', hg, fun z zs hz hap => ⟨?_, ?_⟩⟩
  · simp [execOp, hop, resolve, invoke, builtin, hs, hx, hrun, Result.andThen]
  · refine World.ownsRow.kept hz hg ?_
    cases hb : z.ownBlock with
    | none => exact .inl rfl
    | some c => exact .inr fun hrow => hap c hrow.symm hb
  · intro c hc1 hc2
    rcases hmv with hmv | ⟨g, hg1, hg2⟩
    · exact hap c (hmv.symm.trans hc1) hc2
    · have e : g = c := Option.some.inj (hg1.symm.trans hc1)
      have := hz.lt' c hc2
      omega
/-- the store of a row at hand, as an operation -/
theorem exec_storeRow {a : Act} {w w' : World} {o : Oper} {T : TypeId} {m x y : Operand} {M : Nat} {c : Int} {v : Value} (hop : o.op = .mapUpdate T m x y) (hm : a.eval m = .map (some M)) (hx : a.eval x = .int .i64 c) (hy : a.eval y = v)
    (hrun : (Instr.mapUpdate T (.map (some M)) (.int .i64 c) v).run Try.prog w = .ok () w') : (execOp a.eval o).run Try.prog w = .ok .skip w' := by
  simp [execOp, hop, hm, hx, hy, hrun, Result.andThen]
theorem exec_lookRow {a : Act} {w : World} {o : Oper} {T : TypeId} {m x : Operand} {M : Nat} {c : Int} {v : Value} (hop : o.op = .lookup T m x false) (hm : a.eval m = .map (some M)) (hx : a.eval x = .int .i64 c)
    (hrun : (Instr.lookup T (.map (some M)) (.int .i64 c) false).run Try.prog w = .ok v w) : (execOp a.eval o).run Try.prog w = .ok (.value v) w := by
  simp [execOp, hop, hm, hx, hrun, Result.andThen]
theorem wpList_lookRow {w : World} {ops : Array Oper} {rest : List Oper} {o : Oper} {a : Act} {Q : Exit → Act → World → Prop}
    (hg : o.guard = none) (m x : Operand) (T : TypeId) (hop : o.op = Op.lookup T m x false) (M : Nat) (c : Int) (hm : a.eval m = .map (some M)) (hx : a.eval x = .int .i64 c) {r : Value}
    (hrun : (Instr.lookup T (.map (some M)) (.int .i64 c) false).run Try.prog w = .ok r w) (hK : wpList Try.prog ops Q rest (a.put o.dst r) w) : wpList Try.prog ops Q (o :: rest) a w := by
  refine wpList_plain hg fun K' hK' => ?_
  unfold Oper.wp
  simp [execOp, hop, hm, hx, hrun, Result.andThen]
  exact hK' _ _ hK
end Go.Proofs.Ytimbchkoomjhkaa

/-! AnyH -/
namespace Go.Proofs.Ytimbchkoomjhkaa
open Go.RowKit

section
variable {a : Act} {w : World} {o : Oper} {x : Operand}
theorem exec_allocM (hop : o.op = .alloc 75) : (execOp a.eval o).run Try.prog w = .ok (.value (.pointer (some ⟨w.heap.size, 0, none⟩))) (w.alloc (.cells #[.int .i64 0, .slice none 0 0] 75)) := by
  unfold execOp
  simp only [hop]
  simp [go_sem]
theorem exec_storeM {y : Operand} {B n c : Nat} {f : Int} {ad : Option Addr} {u v : Value} (hop : o.op = .store 75 x y) (hx : a.eval x = .pointer (some ⟨B, 0, none⟩)) (hy : a.eval y = .agg #[.int .i64 f, .slice ad n c]) (hb : Box 75 [u, v] B w) :
    (execOp a.eval o).run Try.prog w = .ok .skip ((w.setCell ⟨B, 0, none⟩ (.int .i64 f)).setCell ⟨B, 1, none⟩ (.slice ad n c)) := by
  have k0 := hb.cell 0
  have k1 := hb.cell 1
  have f0 := hb.ice 0
  have f1 := hb.ice 1
  simp only [List.getElem?_cons_zero, List.getElem?_cons_succ] at k0 k1
  unfold execOp
  simp only [hop, hx, hy]
  simp [go_sem, k0, k1, f0, f1]
end
section
variable {P : Program} {ops : Array Oper} {md : Region.Mode} {Q : Exit → Act → World → Prop} {S : World → Prop} {a : Act} {w w' : World} {fuel : Nat} {listed : Array Bool} {v : Value}
theorem anyH_one {i : Nat} {o : Oper} (hr : Region.ready md ops listed = [i]) (ho : ops[i]? = some o) (hg : o.guard = none) (hv : (execOp a.eval o).run P w = .ok (.value v) w') (hS : S w')
    (h : wpAnyH P md ops Q S fuel (listed.setIfInBounds i true) (a.put o.dst v) w') : wpAnyH P md ops Q S (fuel + 1) listed a w :=
  wpAnyH_all hr (by simp) fun j hj => by
    simp only [List.mem_singleton] at hj
    subst hj
    exact op_at ho hg hv ⟨hS, h⟩
theorem op_skip {i : Nat} {o : Oper} {K : Act → World → Prop} (ho : ops[i]? = some o) (hg : o.guard = none) (hd : o.dst = none) (hv : (execOp a.eval o).run P w = .ok .skip w') (h : K a w') : wpOp P ops Q i K a w := by
  unfold wpOp
  simp only [ho]
  rw [if_pos (by simp [Region.wanted, hg])]
  left
  unfold Oper.wp
  rw [hv]
  simpa [Oper.upon, hd, Act.put] using h
theorem anyH_skip {i : Nat} {o : Oper} (hr : Region.ready md ops listed = [i]) (ho : ops[i]? = some o) (hg : o.guard = none) (hd : o.dst = none) (hv : (execOp a.eval o).run P w = .ok .skip w') (hS : S w')
    (h : wpAnyH P md ops Q S fuel (listed.setIfInBounds i true) a w') : wpAnyH P md ops Q S (fuel + 1) listed a w :=
  wpAnyH_all hr (by simp) fun j hj => by
    simp only [List.mem_singleton] at hj
    subst hj
    exact op_skip ho hg hd hv ⟨hS, h⟩
theorem anyH_two {i k : Nat} {o o2 : Oper} {v2 : Value} {w2 : World} (hr : Region.ready md ops listed = [i, k]) (ho : ops[i]? = some o) (hg : o.guard = none) (hv : (execOp a.eval o).run P w = .ok (.value v) w') (hS : S w')
    (ho2 : ops[k]? = some o2) (hg2 : o2.guard = none) (hv2 : (execOp a.eval o2).run P w = .ok (.value v2) w2) (hS2 : S w2)
    (h : wpAnyH P md ops Q S fuel (listed.setIfInBounds i true) (a.put o.dst v) w') (h2 : wpAnyH P md ops Q S fuel (listed.setIfInBounds k true) (a.put o2.dst v2) w2) : wpAnyH P md ops Q S (fuel + 1) listed a w :=
  wpAnyH_all hr (by simp) fun j hj => by
    simp only [List.mem_cons, List.not_mem_nil, or_false] at hj
    rcases hj with rfl | rfl
    · exact op_at ho hg hv ⟨hS, h⟩
    · exact op_at ho2 hg2 hv2 ⟨hS2, h2⟩
end
end Go.Proofs.Ytimbchkoomjhkaa

/-! RowOps -/
namespace Go.Proofs.Ytimbchkoomjhkaa
open Go.RowKit

section
variable {ops : Array Oper} {md : Region.Mode} {Q : Exit → Act → World → Prop} {S : World → Prop} {a : Act} {w w' : World} {fuel : Nat} {listed : Array Bool}
/-- a read, and what lays memory, in either order -/
theorem anyH_pair {P : Program} {i j : Nat} {oi oj : Oper} {vi vj : Value} (hi : ops[i]? = some oi) (hj : ops[j]? = some oj) (gi : oi.guard = none) (gj : oj.guard = none) (hij : i ≠ j) (dij : ∀ d, oj.dst = some d → oi.dst ≠ some d)
    (r1 : Region.ready md ops listed = [i, j]) (r2 : Region.ready md ops (listed.setIfInBounds i true) = [j]) (r3 : Region.ready md ops (listed.setIfInBounds j true) = [i])
    (i1 : (execOp a.eval oi).run P w = .ok (.value vi) w) (i2 : (execOp (a.put oj.dst vj).eval oi).run P w' = .ok (.value vi) w') (j1 : (execOp a.eval oj).run P w = .ok (.value vj) w') (j2 : (execOp (a.put oi.dst vi).eval oj).run P w = .ok (.value vj) w')
    (hS : S w) (hS' : S w') (h : wpAnyH P md ops Q S fuel ((listed.setIfInBounds i true).setIfInBounds j true) ((a.put oi.dst vi).put oj.dst vj) w') : wpAnyH P md ops Q S (fuel + 1 + 1) listed a w := by
  refine anyH_two r1 hi gi i1 hS hj gj j1 hS' ?_ ?_
  · exact anyH_one r2 hj gj j2 hS' h
  · refine anyH_one r3 hi gi i2 hS' ?_
    rw [Act.put_comm a vj vi dij, Array.setIfInBounds_comm _ _ (Ne.symm hij)]
    exact h
theorem anyH_app {i : Nat} {o : Oper} (hr : Region.ready md ops listed = [i]) (ho : ops[i]? = some o) (hg : o.guard = none) {s x : Operand} (hop : o.op = .call { callee := .builtin .append, args := #[s, x], argTypes := #[22, 22] })
    {base : Nat} {v : Value} {xs : List Int} (hs : a.eval s = v) (hown : Own .i64 3 base w v xs) {b : Nat} {y : Int} (hx : a.eval x = .slice (some ⟨b, 0, none⟩) 1 1) (hc : w.cell? ⟨b, 0, none⟩ = some (.int .i64 y)) (hl : xs.length + 1 ≤ 1000000) (hbase : base ≤ w.heap.size)
    (h : ∀ v' w', Own .i64 3 base w' v' (xs ++ [y]) → w.grownBy w' v.ownBlock → (∀ z zs, Own .i64 3 base w z zs → Apt v z → Own .i64 3 base w' z zs ∧ Apt v' z) → S w' ∧ wpAnyH Try.prog md ops Q S fuel (listed.setIfInBounds i true) (a.put o.dst v') w') :
    wpAnyH Try.prog md ops Q S (fuel + 1) listed a w := by
  obtain ⟨v', w', hrun, h1, h2, h3⟩ := exec_appOne hop hs hown hx hc hl hbase
  obtain ⟨h4, h5⟩ := h v' w' h1 h2 h3
  exact anyH_one hr ho hg hrun h4 h5
theorem anyH_store {i : Nat} {o : Oper} {T : TypeId} {m x y : Operand} (hr : Region.ready md ops listed = [i]) (ho : ops[i]? = some o) (hg : o.guard = none) (hd : o.dst = none) (hop : o.op = .mapUpdate T m x y) {M : Nat} {c : Int} {v : Value} (hm : a.eval m = .map (some M)) (hx : a.eval x = .int .i64 c) (hy : a.eval y = v)
    (hrun : (Instr.mapUpdate T (.map (some M)) (.int .i64 c) v).run Try.prog w = .ok () w') (hS : S w') (h : wpAnyH Try.prog md ops Q S fuel (listed.setIfInBounds i true) a w') : wpAnyH Try.prog md ops Q S (fuel + 1) listed a w :=
  anyH_skip hr ho hg hd (exec_storeRow hop hm hx hy hrun) hS h
end
end Go.Proofs.Ytimbchkoomjhkaa
