/- Steps of regions whose order is open, for operations that the walk cannot run: whole blocks loaded, looked up, laid. No conditions. -/
import Derived.Test.YtlngnmcflooccaaPool2
import Derived.Great.BuildSlice
namespace Go.Proofs.Ytlngnmcflooccaa
open Go.RowKit Go.Maps

section
variable {P : Program} {ops : Array Oper} {md : Region.Mode} {Q : Exit → Act → World → Prop} {a : Act} {w w' : World} {fuel : Nat} {listed : Array Bool} {v : Value}
theorem still_at {o : Oper} {rest : List Oper} {Q : Act → Prop} (hg : o.guard = none) (hv : (execOp a.eval o).run P w = .ok (.value v) w) (h : wpStill P ops w Q rest (a.put o.dst v)) : wpStill P ops w Q (o :: rest) a :=
  wpStill_step fun K hK => by
    rw [if_pos (by simp [Region.wanted, hg])]
    unfold Oper.still
    rw [hv]
    exact ⟨rfl, hK _ h⟩
theorem op_at {i : Nat} {o : Oper} {K : Act → World → Prop} (ho : ops[i]? = some o) (hg : o.guard = none) (hv : (execOp a.eval o).run P w = .ok (.value v) w') (h : K (a.put o.dst v) w') : wpOp P ops Q i K a w := by
  unfold wpOp
  simp only [ho]
  rw [if_pos (by simp [Region.wanted, hg])]
  left
  unfold Oper.wp
  rw [hv]
  exact h
/-- one operation alone may come up -/
theorem any_one {i : Nat} {o : Oper} (ho : ops[i]? = some o) (hr : Region.ready md ops listed = [i]) (hg : o.guard = none) (hv : (execOp a.eval o).run P w = .ok (.value v) w')
    (h : wpAny P md ops Q fuel (listed.setIfInBounds i true) (a.put o.dst v) w') : wpAny P md ops Q (fuel + 1) listed a w :=
  wpAny_all hr (by simp) fun j hj => by
    simp only [List.mem_singleton] at hj
    subst hj
    exact op_at ho hg hv h
/-- either of two may -/
theorem any_two {i k : Nat} {o o2 : Oper} {v2 : Value} {w2 : World} (hr : Region.ready md ops listed = [i, k]) (ho : ops[i]? = some o) (hg : o.guard = none) (hv : (execOp a.eval o).run P w = .ok (.value v) w')
    (ho2 : ops[k]? = some o2) (hg2 : o2.guard = none) (hv2 : (execOp a.eval o2).run P w = .ok (.value v2) w2)
    (h : wpAny P md ops Q fuel (listed.setIfInBounds i true) (a.put o.dst v) w') (h2 : wpAny P md ops Q fuel (listed.setIfInBounds k true) (a.put o2.dst v2) w2) : wpAny P md ops Q (fuel + 1) listed a w :=
  wpAny_all hr (by simp) fun j hj => by
    simp only [List.mem_cons, List.not_mem_nil, or_false] at hj
    rcases hj with rfl | rfl
    · exact op_at ho hg hv h
    · exact op_at ho2 hg2 hv2 h2
/-- two reads, and a third operation behind the second of them -/
theorem any_three {i j k : Nat} {oi oj ok : Oper} {vi vj vk : Value} (hi : ops[i]? = some oi) (hj : ops[j]? = some oj) (hk : ops[k]? = some ok) (gi : oi.guard = none) (gj : oj.guard = none) (gk : ok.guard = none)
    (hij : i ≠ j) (hik : i ≠ k) (dij : ∀ d, oj.dst = some d → oi.dst ≠ some d) (dik : ∀ d, ok.dst = some d → oi.dst ≠ some d)
    (r1 : Region.ready md ops listed = [i, j]) (r2 : Region.ready md ops (listed.setIfInBounds i true) = [j]) (r3 : Region.ready md ops ((listed.setIfInBounds i true).setIfInBounds j true) = [k])
    (r4 : Region.ready md ops (listed.setIfInBounds j true) = [i, k]) (r5 : Region.ready md ops ((listed.setIfInBounds j true).setIfInBounds i true) = [k]) (r6 : Region.ready md ops ((listed.setIfInBounds j true).setIfInBounds k true) = [i])
    (i1 : (execOp a.eval oi).run P w = .ok (.value vi) w) (i2 : (execOp (a.put oj.dst vj).eval oi).run P w = .ok (.value vi) w) (i3 : (execOp ((a.put oj.dst vj).put ok.dst vk).eval oi).run P w' = .ok (.value vi) w')
    (j1 : (execOp a.eval oj).run P w = .ok (.value vj) w) (j2 : (execOp (a.put oi.dst vi).eval oj).run P w = .ok (.value vj) w)
    (k1 : (execOp ((a.put oi.dst vi).put oj.dst vj).eval ok).run P w = .ok (.value vk) w') (k2 : (execOp (a.put oj.dst vj).eval ok).run P w = .ok (.value vk) w') (k3 : (execOp ((a.put oj.dst vj).put oi.dst vi).eval ok).run P w = .ok (.value vk) w')
    (h : wpAny P md ops Q fuel (((listed.setIfInBounds i true).setIfInBounds j true).setIfInBounds k true) (((a.put oi.dst vi).put oj.dst vj).put ok.dst vk) w') : wpAny P md ops Q (fuel + 1 + 1 + 1) listed a w := by
  refine any_two r1 hi gi i1 hj gj j1 ?_ ?_
  · exact any_one hj r2 gj j2 (any_one hk r3 gk k1 h)
  · refine any_two r4 hi gi i2 hk gk k2 ?_ ?_
    · refine any_one hk r5 gk k3 ?_
      rw [Act.put_comm a vj vi dij, Array.setIfInBounds_comm _ _ (Ne.symm hij)]
      exact h
    · refine any_one hi r6 gi i3 ?_
      rw [Act.put_comm (a.put oj.dst vj) vk vi dik, Act.put_comm a vj vi dij, Array.setIfInBounds_comm _ _ (Ne.symm hik), Array.setIfInBounds_comm _ _ (Ne.symm hij)]
      exact h
/-- a region whose order is open -/
theorem region_open {id : Nat} (n : Nat) (hn : ops.size = n) (hm : P.follows .mixedOrders = true) (h : wpAny P .any ops Q n (Array.replicate n false) a w.drew) : (Code.region id ops true).wp P Q a w := by
  subst hn
  exact wp_region_any hm h
theorem exec_nilc {o : Oper} {x : Operand} {p : Addr} (hop : o.op = .nilCheck x) (hx : a.eval x = .pointer (some p)) : (execOp a.eval o).run P w = .ok (.value (.pointer (some p))) w := by
  unfold execOp
  simp [hop, hx]
/-- the rest in its only order -/
theorem any_rest {l : List Oper} (n : Nat) (hf : fuel = (l.drop n).length) (hB : Region.seqB .any l.toArray (l.drop n).length n listed = true) (h : wpList P l.toArray Q (l.drop n) a w) : wpAny P .any l.toArray Q fuel listed a w := by
  subst hf
  exact wpAny_of_seq (l.drop n) n listed a w (fun j => by simp [List.getElem?_drop]) hB h
theorem exec_move {o : Oper} {x : Operand} (hop : o.op = .move x) (hx : a.eval x = v) : (execOp a.eval o).run P w = .ok (.value v) w := by
  unfold execOp
  simp [hop, hx]
end

section
variable {a : Act} {w : World} {o : Oper} {x : Operand}
theorem exec_loadB {cs : List Value} {X : Nat} (hop : o.op = .load 52 x) (hx : a.eval x = .pointer (some ⟨X, 0, none⟩)) (hb : Box 52 cs X w) (hl : cs.length = 256) : (execOp a.eval o).run Try.prog w = .ok (.value (.agg cs.toArray)) w := by
  unfold execOp
  simp only [hop, hx, Instr.loadAt, Instr.sureAddr, Sem.run_bind, Sem.run_pure, Result.andThen_ok, (blk_load hb hl).1]
theorem exec_items {P : Nat} {v : Value} (hop : o.op = .load 47 x) (hx : a.eval x = .pointer (some ⟨P, 0, none⟩)) (hc : w.cell? ⟨P, 0, none⟩ = some v) : (execOp a.eval o).run Try.prog w = .ok (.value v) w := by
  unfold execOp
  simp only [hop, hx]
  simp [go_sem, hc]
theorem exec_look {m : Operand} {v : Value} {key : Value} {M : Nat} (hop : o.op = .lookup 46 m x true) (hm : a.eval m = .map (some M)) (hx : a.eval x = key)
    (h : (Instr.lookup 46 (.map (some M)) key true).run Try.prog w = .ok v w) : (execOp a.eval o).run Try.prog w = .ok (.value v) w := by
  unfold execOp
  simp only [hop, hx, hm, Sem.run_bind, h, Result.andThen_ok, Sem.run_pure]
theorem Try.infoBlk : (Try.prog.info? 52).map (fun i => (i.size, i.bytes)) = some (256, 512) := by kernel_rfl
theorem blk_zero : ∃ i z, Try.prog.info? 52 = some i ∧ i.zero = some z ∧ i.size = 256 ∧ i.bytes = 512 ∧ z.cells.size = 256 := by
  have h1 := Try.infoBlk
  have h2 : ((Try.prog.info? 52).bind (·.zero)).map (fun z => z.cells.size) = some 256 := by kernel_rfl
  cases hi : Try.prog.info? 52 with
  | none => simp [hi] at h1
  | some i =>
    simp [hi] at h1 h2
    obtain ⟨z, hz, hz2⟩ := h2
    exact ⟨i, z, rfl, hz, h1.1, h1.2, hz2⟩
theorem set_all : ∀ (l : List Value) (k : Nat) (cs : Array Value), k + l.length ≤ cs.size → (∀ j, (h : j < l.length) → ((l.zipIdx k).foldl (fun cs x => cs.setIfInBounds x.2 x.1) cs)[k + j]? = some l[j]) ∧ ((l.zipIdx k).foldl (fun cs x => cs.setIfInBounds x.2 x.1) cs).size = cs.size ∧ ∀ j, j < k → ((l.zipIdx k).foldl (fun cs x => cs.setIfInBounds x.2 x.1) cs)[j]? = cs[j]?
  | [], k, cs, _ => ⟨fun j h => by simp at h, rfl, fun _ _ => rfl⟩
  | x :: l, k, cs, hl => by
    have ih := set_all l (k + 1) (cs.setIfInBounds k x) (by simp at hl ⊢; omega)
    rw [List.zipIdx_cons, List.foldl_cons]
    refine ⟨fun j h => ?_, by rw [ih.2.1]; simp, fun j hj => ?_⟩
    · match j, h with
      | 0, _ =>
        have := ih.2.2 k (by omega)
        rw [Nat.add_zero]
        refine this.trans ?_
        have hl2 : k < cs.size := by simp at hl; omega
        simp [hl2]
      | j + 1, h =>
        have := ih.1 j (by simpa using h)
        rw [show k + (j + 1) = k + 1 + j by omega]
        refine this.trans ?_
        simp
    · refine (ih.2.2 j (by omega)).trans ?_
      rw [Array.getElem?_setIfInBounds, if_neg (by omega)]
theorem fill_one (base : Array Value) (cs : List Value) (hb : base.size = 256) (hl : cs.length = 256) : Instr.fill (fun i => some (i * 256, 256)) base [(0, .agg cs.toArray)] = some cs.toArray := by
  unfold Instr.fill
  simp only [show (Value.agg cs.toArray).cells = cs.toArray from rfl]
  rw [if_neg (by simp [hl, hb])]
  unfold Instr.fill
  congr 1
  have hk := set_all cs 0 base (by omega)
  have e : cs.toArray.zipIdx.foldl (fun cs x => cs.setIfInBounds (0 * 256 + x.2) x.1) base = (cs.zipIdx 0).foldl (fun cs x => cs.setIfInBounds x.2 x.1) base := by
    rw [← Array.foldl_toList, Array.toList_zipIdx]
    simp
  refine Eq.trans e ?_
  apply Array.ext
  · rw [hk.2.1]; simp [hl, hb]
  · intro j h1 h2
    have hj : j < cs.length := by simpa using h2
    have := hk.1 j hj
    rw [Nat.zero_add, Array.getElem?_eq_getElem h1] at this
    injection this
theorem exec_build {cs : List Value} (hop : o.op = .buildSlice 47 1 #[(0, x)]) (hx : a.eval x = .agg cs.toArray) (hl : cs.length = 256) :
    (execOp a.eval o).run Try.prog w = .ok (.value (.slice (some ⟨w.heap.size, 0, none⟩) 1 1)) (w.alloc (.cells cs.toArray 52)) := by
  obtain ⟨i, z, hi, hz, hs, hb, hzc⟩ := blk_zero
  have hrun := run_buildSlice (P := Try.prog) w 47 52 1 #[(0, .agg cs.toArray)] cs.toArray i z Try.underlying47 hi hz (by rw [hs]; omega) (by rw [hs]; omega) (by
    rw [hs]
    exact fill_one _ cs (by simp) hl)
  unfold execOp
  simp only [hop, List.map_toArray, List.map_cons, List.map_nil, hx, Sem.run_bind, hrun, Result.andThen_ok, Sem.run_pure]
end

/-! ### what an append to a row of blocks leaves -/
theorem row_form {w : World} {base e size n : Nat} {v : Value} {cs : List Value} (h : w.ownsRow base e size v n cs) : ∃ a c, v = .slice a n c := by
  rcases h.2 with ⟨rfl, hn⟩ | ⟨g, cap, cur, rfl, _⟩
  · exact ⟨none, 0, by rw [hn]⟩
  · exact ⟨_, _, rfl⟩
theorem row_other {w : World} {base e size n : Nat} {v : Value} {cs : List Value} (h : w.ownsRow base e size v n cs) {t : TypeId} {xs : List Value} {B : Nat} (hb : Box t xs B w) (ht : t ≠ e) : some B ≠ v.ownBlock := by
  intro hB
  rcases h.2 with ⟨rfl, _⟩ | ⟨g, cap, cur, rfl, _, hg, _⟩
  · simp [Value.ownBlock] at hB
  · simp [Value.ownBlock] at hB
    subst hB
    have hb' : w.heap[B]? = some (.cells xs.toArray t) := hb
    rw [hg] at hb'
    simp at hb'
    exact ht hb'.2.symm
theorem row_nomap {w : World} {base e size n : Nat} {v : Value} {cs : List Value} (h : w.ownsRow base e size v n cs) {k : TypeId} {R : Value → Option (DataW Unit × List MemPlace)} {M m : Nat} {D : DataW Unit} (hm : w.ownsMap Try.prog k R M m D) : some M ≠ v.ownBlock := by
  intro hB
  obtain ⟨es, clock, he, _⟩ := hm
  rcases h.2 with ⟨rfl, _⟩ | ⟨g, cap, cur, rfl, _, hg, _⟩
  · simp [Value.ownBlock] at hB
  · simp [Value.ownBlock] at hB
    subst hB
    rw [hg] at he
    cases he
theorem box_nomap {w : World} {t : TypeId} {xs : List Value} {B : Nat} (hb : Box t xs B w) {k : TypeId} {R : Value → Option (DataW Unit × List MemPlace)} {M m : Nat} {D : DataW Unit} (hm : w.ownsMap Try.prog k R M m D) : B ≠ M := by
  rintro rfl
  obtain ⟨es, clock, he, _⟩ := hm
  have hb' : w.heap[B]? = some (.cells xs.toArray t) := hb
  rw [hb'] at he
  cases he
theorem box_row {w w' : World} {base e size n : Nat} {v : Value} {cs : List Value} (h : w.ownsRow base e size v n cs) {t : TypeId} {xs : List Value} {B : Nat} (hb : Box t xs B w) (ht : t ≠ e) (hg : w.grownBy w' v.ownBlock) : Box t xs B w' :=
  (hg.block B hb.lt (row_other h hb ht)).trans hb
theorem row_set {w : World} {base e size n : Nat} {v : Value} {cs : List Value} (h : w.ownsRow base e size v n cs) {t : TypeId} {xs : List Value} {B : Nat} (hb : Box t xs B w) (ht : t ≠ e) (j : Nat) (u : Value) : (w.setCell ⟨B, j, none⟩ u).ownsRow base e size v n cs := by
  have ho := row_other h hb ht
  obtain ⟨h1, h2⟩ := h
  refine ⟨h1, ?_⟩
  rcases h2 with h2 | ⟨g, cap, cur, rfl, hg, hh, r⟩
  · exact .inl h2
  · refine .inr ⟨g, cap, cur, rfl, hg, ?_, r⟩
    rw [Below.heap_setCell _ _ _ _ (by simpa [Value.ownBlock] using fun e => ho (by simp [Value.ownBlock, e]))]
    exact hh
theorem grow_undrew {a w : World} {r : Option Nat} (h : a.drew.grownBy w r) : a.grownBy w r := ⟨h.os, h.tape, h.output, h.size, h.block⟩
theorem Keeps.row {w w' : World} {base size n : Nat} {v : Value} {cs : List Value} (h : w.ownsRow base 52 size v n cs) (hg : w.grownBy w' v.ownBlock) : Keeps w w' := fun _ _ _ h1 _ hb => box_row h hb h1 hg
theorem Keeps.set {w : World} {cs : List Value} {P : Nat} (h : Box 49 cs P w) (j : Nat) (u : Value) : Keeps w (w.setCell ⟨P, j, none⟩ u) := fun t cs' i _ h2 hb => box_far' hb (by
  rintro rfl
  have h' : w.heap[i]? = some (.cells cs.toArray 49) := h
  have hb' : w.heap[i]? = some (.cells cs'.toArray t) := hb
  rw [h'] at hb'
  simp at hb'
  exact h2 hb'.2.symm)
theorem Keeps.map {w w' : World} {k : TypeId} {R : Value → Option (DataW Unit × List MemPlace)} {M m : Nat} {D : DataW Unit} (hm : w.ownsMap Try.prog k R M m D) (hg : w.grownBy w' (some M)) : Keeps w w' := fun _ _ i _ _ hb =>
  (hg.block i hb.lt (fun e => box_nomap hb hm (Option.some.inj e))).trans hb
theorem row_map {w w' : World} {base e size n : Nat} {v : Value} {cs : List Value} (h : w.ownsRow base e size v n cs) {k : TypeId} {R : Value → Option (DataW Unit × List MemPlace)} {M m : Nat} {D : DataW Unit} (hm : w.ownsMap Try.prog k R M m D) (hg : w.grownBy w' (some M)) : w'.ownsRow base e size v n cs := by
  refine World.ownsRow.kept h hg ?_
  cases hv : v.ownBlock with
  | none => exact .inl rfl
  | some g => exact .inr fun he => row_nomap h hm (by rw [hv]; exact he.symm)
theorem uv_one (ys : List Int) : ∀ u ∈ uv ys, u.oneCell' = true := fun u hu => by
  obtain ⟨x, _, rfl⟩ := List.mem_map.1 hu
  rfl
theorem uv_app (a b : List Int) : uv (a ++ b) = uv a ++ uv b := by simp [uv]
end Go.Proofs.Ytlngnmcflooccaa
