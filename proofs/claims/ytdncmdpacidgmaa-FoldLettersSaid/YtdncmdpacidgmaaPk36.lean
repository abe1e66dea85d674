/- Several texts in one: Cmp10a. -/
import Derived.Test.YtdncmdpacidgmaaPk22
import Derived.Test.YtdncmdpacidgmaaPk4
import Derived.Test.YtdncmdpacidgmaaPk26
import Derived.Carry
import Derived.Maps.Keyed
import Derived.Maps.OwnSet
import Derived.DeepKeys4
import Derived.DataBytes
/-! Cmp10a -/
namespace Go.Proofs.Ytdncmdpacidgmaa
open Go.RowKit Go.Maps

/-- a pair of numbers as a key -/
def pv (a b : Int) : Value := .agg #[.int .i64 a, .int .i64 b]
/-- an answer: whether it was asked for, the composite, whether there is one -/
def av (k : Bool) (c : Int) (o : Bool) : Value := .agg #[.bool k, .int .i64 c, .bool o]
theorem pv_inj {a b c d : Int} (h : pv a b = pv c d) : a = c ∧ b = d := by
  unfold pv at h
  simp only [Value.agg.injEq, Array.mk.injEq, List.cons.injEq, Value.int.injEq, true_and, and_true] at h
  exact h
theorem pr_under : Try.prog.underlying 60 = some (.array 2 3) := by kernel_rfl
theorem pr_cells : Try.prog.cellsOf 60 = 2 := by kernel_rfl
theorem pr_int : Try.prog.cellsOf 3 = 1 := by kernel_rfl
theorem pr_keyType : Try.prog.keyType 60 = true := by kernel_rfl
theorem wf_i64k {c : Int} (h : inI c = true) : (Lit.int .i64 c).wf = true := by
  unfold inI at h
  rw [decide_eq_true_iff] at h
  simpa [Lit.wf, IntKind.min, IntKind.max, IntKind.signed, IntKind.bits] using h
theorem types_more10 : ∃ m, Try.prog.types.size = m + 1 := ⟨Try.prog.types.size - 1, by
  have : 0 < Try.prog.types.size := of_decide_eq_true (by kernel_rfl)
  omega⟩
theorem pr_key {a b : Int} (ha : inI a = true) (hb : inI b = true) : keyOf Try.prog 60 (pv a b) = some (.string (keyBytes [Lit.int .i64 a, Lit.int .i64 b])) := by
  obtain ⟨m, hm⟩ := types_more10
  unfold keyOf pv
  simp only [pr_under]
  rw [if_pos (by simp [pr_keyType, Value.formed, pr_cells]), hm]
  unfold Program.keyLits
  simp only [pr_under, Value.cells]
  rw [if_pos (by rw [pr_cells]; rfl)]
  have key := mapM_some_of_forall (f := fun i => Try.prog.keyLits (m + 1) 3 (((#[Value.int .i64 a, Value.int .i64 b]).toList.drop (i * Try.prog.cellsOf 3)).take (Try.prog.cellsOf 3))) (g := fun i => [Lit.int .i64 (if i = 0 then a else b)]) (List.range 2) (fun i hi => by
    have hi := List.mem_range.1 hi
    have e : ((#[Value.int .i64 a, Value.int .i64 b]).toList.drop (i * Try.prog.cellsOf 3)).take (Try.prog.cellsOf 3) = [.int .i64 (if i = 0 then a else b)] := by
      rw [pr_int, Nat.mul_one]
      rcases (show i = 0 ∨ i = 1 by omega) with rfl | rfl <;> rfl
    rw [e]
    unfold Program.keyLits
    simp only [Try.underlying3]
    rw [if_pos ⟨trivial, by split; exact wf_i64k ha; exact wf_i64k hb⟩])
  rw [key]
  rfl
theorem Try.laidOut10 : laidOutB Try.prog = true := by kernel_rfl
theorem pr_row : (60 : TypeId) < Try.prog.types.size := of_decide_eq_true (by kernel_rfl)
theorem pr_wide : (match Try.prog.underlying 60 with | some (.array _ _) | some (.struct _) => true | _ => false) = true := by kernel_rfl
set_option maxRecDepth 100000 in
theorem pr_law : Keyed Try.prog 60 := Keyed.of_law (deep_law_laid Try.laidOut10 (m := 2) (by omega) pr_row (by kernel_rfl) pr_wide)

/-- an entry tells what two numbers compose, if it was asked for -/
def AnsE (e : MapEntry) : Prop := ∃ a b k c o, e.key = pv a b ∧ inI a = true ∧ inI b = true ∧ e.val = av k c o ∧ (k = true → (c, o) = twoS a b)
/-- the map in block M: each entry tells what is so; all pairs of L are among the keys -/
def MapC (L : List Rg) (M : Nat) (w : World) : Prop := ∃ es clock, w.heap[M]? = some (.map es clock) ∧ (∀ e ∈ es.toList, AnsE e) ∧ ∀ r ∈ L, ∃ e ∈ es.toList, e.key = pv r.t r.v
theorem MapC.lt {L : List Rg} {M : Nat} {w : World} (h : MapC L M w) : M < w.heap.size := by
  obtain ⟨es, clock, hm, -⟩ := h
  exact (Array.getElem?_eq_some_iff.1 hm).1
theorem MapC.below {L : List Rg} {M : Nat} {w w' : World} (h : MapC L M w) (hb : Below w.heap.size w w') : MapC L M w' := by
  have hl := h.lt
  obtain ⟨es, clock, hm, h1, h2⟩ := h
  exact ⟨es, clock, (hb.block M hl).trans hm, h1, h2⟩
theorem MapC.same {L : List Rg} {M : Nat} {w w' : World} (h : MapC L M w) (hb : w'.heap[M]? = w.heap[M]?) : MapC L M w' := by
  obtain ⟨es, clock, hm, h1, h2⟩ := h
  exact ⟨es, clock, hb.trans hm, h1, h2⟩
theorem MapC.nil {M clock : Nat} {w : World} (h : w.heap[M]? = some (.map #[] clock)) : MapC [] M w := ⟨_, _, h, fun e he => by simp at he, fun r hr => by cases hr⟩
theorem MapC.nobox {L : List Rg} {M B : Nat} {w : World} {t : TypeId} {cs : List Value} (h : MapC L M w) (hb : Box t cs B w) : B ≠ M := fun e => by
  obtain ⟨es, clock, hm, -⟩ := h
  subst e
  unfold Box at hb
  rw [hm] at hb
  cases hb
theorem AnsE.key {e : MapEntry} (h : AnsE e) : ∃ l, keyOf Try.prog 60 e.key = some l := by
  obtain ⟨a, b, k, c, o, hk, ha, hb, -⟩ := h
  rw [hk]
  exact ⟨_, pr_key ha hb⟩
theorem zero_ans (w : World) : (zeroValue 91).run Try.prog w = .ok (av false 0 false) w := by kernel_rfl

/-- what an answer that was found says -/
def AnsOk (a b : Int) (k : Bool) (c : Int) (o : Bool) : Prop := k = true → (c, o) = twoS a b
theorem store_pair {L : List Rg} {M : Nat} {W : World} (h : MapC L M W) {a b : Int} (ha : inI a = true) (hb : inI b = true) {k o : Bool} {c : Int} (hc : AnsOk a b k c o) :
    ∃ W', (Instr.mapUpdate 80 (.map (some M)) (pv a b) (av k c o)).run Try.prog W = .ok () W' ∧ W.grownBy W' (some M) ∧ ∀ f, MapC (L ++ [⟨f, a, b⟩]) M W' := by
  obtain ⟨es, clock, hM, h1, h2⟩ := h
  have hkey := pr_key ha hb
  have ht := Try.underlying80
  have grown : ∀ o, W.grownBy (ChangeMaps.setBlock W M o) (some M) := fun o => ⟨rfl, rfl, rfl, by simp [ChangeMaps.setBlock], fun i _ hi => ChangeMaps.heap_setBlock_other hM _ (fun e => hi (by rw [e]))⟩
  rcases pr_law.find W hkey es.toList (fun x hx => (h1 x hx).key) with ⟨hf, hn⟩ | ⟨j, e0, hf, he, hk⟩
  · refine ⟨_, by simp [Instr.mapUpdate, run_underlying ht, MapKept.run_getObj_map hM, pr_law.check W false hkey, hf, MapKept.run_setObj_map _ hM, Result.andThen]; rfl, grown _, fun f => ⟨_, _, ChangeMaps.heap_setBlock_same hM _, fun e he => ?_, fun r hr => ?_⟩⟩
    · simp only [Array.toList_push, List.mem_append, List.mem_singleton] at he
      rcases he with he | rfl
      · exact h1 e he
      · exact ⟨a, b, k, c, o, rfl, ha, hb, rfl, hc⟩
    · simp only [Array.toList_push, List.mem_append, List.mem_singleton]
      rcases List.mem_append.1 hr with hr | hr
      · obtain ⟨e, hem, hek⟩ := h2 r hr
        exact ⟨e, .inl hem, hek⟩
      · rw [List.mem_singleton] at hr
        subst hr
        exact ⟨_, .inr rfl, rfl⟩
  · have hj : es[j]? = some e0 := by simpa using he
    have hst := pr_law.stays W hkey
    refine ⟨_, by simp [Instr.mapUpdate, run_underlying ht, MapKept.run_getObj_map hM, pr_law.check W false hkey, hf, hj, hk, hst, MapKept.run_setObj_map _ hM, Result.andThen]; rfl, grown _, fun f => ⟨_, _, ChangeMaps.heap_setBlock_same hM _, ?_, ?_⟩⟩
    · intro e hem
      rw [Array.toList_modify, ChangeMaps.modify_eq_set _ _ _ _ he] at hem
      rcases List.mem_or_eq_of_mem_set hem with hem | rfl
      · exact h1 e hem
      · exact ⟨a, b, k, c, o, rfl, ha, hb, rfl, hc⟩
    · intro r hr
      rw [Array.toList_modify, ChangeMaps.modify_eq_set _ _ _ _ he]
      have hnew : ∀ z : MapEntry, z.key = pv a b → ∀ x ∈ es.toList, x.key = pv r.t r.v → ∃ e ∈ es.toList.set j z, e.key = pv r.t r.v := fun z hz x hx hxk => by
        obtain ⟨i, hi, hix⟩ := List.getElem_of_mem hx
        by_cases hij : j = i
        · subst hij
          refine ⟨z, List.mem_of_getElem? (i := j) (List.getElem?_set_self hi), ?_⟩
          have : x = e0 := by rw [← hix]; rw [List.getElem?_eq_getElem hi] at he; exact Option.some.inj he
          rw [← hxk, this, hk, hz]
        · exact ⟨x, List.mem_of_getElem? (i := i) (by rw [List.getElem?_set_ne hij, List.getElem?_eq_getElem hi, hix]), hxk⟩
      rcases List.mem_append.1 hr with hr | hr
      · obtain ⟨e, hem, hek⟩ := h2 r hr
        exact hnew _ rfl e hem hek
      · rw [List.mem_singleton] at hr
        subst hr
        exact hnew _ rfl e0 (List.mem_of_getElem? he) hk

/-- what is not in the tables is made by letters alone -/
theorem two_off {a b : Int} (h : ∀ r ∈ tabCanon, ¬ (r.t = a ∧ r.v = b)) : twoS a b = joinS a b := by
  unfold twoS
  cases hj : (joinS a b).2 with
  | true => rw [if_pos rfl, ← hj]
  | false =>
    rw [if_neg (by simp)]
    have hp : ∀ l : List Rg, (∀ r ∈ l, (r.t == a && r.v == b) = false) → fndS (fun r => r.t == a && r.v == b) l = (noRg, false) := fun l => by
      induction l with
      | nil => intro _; rfl
      | cons r l ih =>
        intro hl
        unfold fndS
        rw [hl r (by simp)]
        exact ih fun x hx => hl x (by simp [hx])
    have hz : joinS a b = (0, false) := by
      unfold joinS at hj ⊢
      split
      · rename_i h1; rw [if_pos h1] at hj; cases hj
      · split
        · rename_i h1 h2; rw [if_neg h1, if_pos h2] at hj; cases hj
        · rfl
    unfold pairS
    rw [hp tabPair (fun r hr => by
      have hm : r ∈ tabCanon := (List.mem_filter.1 hr).1
      have := h r hm
      simp only [Bool.and_eq_false_imp, beq_iff_eq, beq_eq_false_iff_ne]
      exact fun e1 e2 => this ⟨e1, e2⟩), hz]
    rfl
end Go.Proofs.Ytdncmdpacidgmaa
