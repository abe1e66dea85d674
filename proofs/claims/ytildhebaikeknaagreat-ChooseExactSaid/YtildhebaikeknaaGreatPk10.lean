/- Several texts in one: AnyOps. -/
import Derived.Test.YtildhebaikeknaaGreatPk1
import Derived.Orders
import Derived.StillTail
import Derived.Great.BuildSlice
/-! AnyOps -/
namespace Go.Proofs.YtildhebaikeknaaGreat
open Go.RowKit

section
variable {P : Program} {ops : Array Oper} {md : Region.Mode} {Q : Exit → Act → World → Prop} {a : Act} {w w' : World} {fuel : Nat} {listed : Array Bool} {v : Value}
theorem still_at {o : Oper} {rest : List Oper} {Q : Act → Prop} (hg : o.guard = none) (hv : (execOp a.eval o).run P w = .ok (.value v) w) (h : wpStill P ops w Q rest (a.put o.dst v)) : wpStill P ops w Q (o :: rest) a :=
  wpStill_step fun K hK => by
    rw [if_pos (by simp [Region.wanted, hg])]
    unfold Oper.still
    rw [hv]
    exact ⟨rfl, hK _ h⟩
theorem op_at {i : Nat} {o : Oper} {K : Act → World → Prop} (ho : ops[i]? = some o) (hg : o.guard = none) (hv : (execOp a.eval o).run P w = .ok (.value v) w') (h : K (a.put o.dst v) w') : wpOp P ops Q i K a w := by
  unfold wpOp
  simp only [ho]
  rw [if_pos (by simp [Region.wanted, hg])]
  left
  unfold Oper.wp
  rw [hv]
  exact h
/-- one operation alone may come up -/
theorem any_one {i : Nat} {o : Oper} (ho : ops[i]? = some o) (hr : Region.ready md ops listed = [i]) (hg : o.guard = none) (hv : (execOp a.eval o).run P w = .ok (.value v) w')
    (h : wpAny P md ops Q fuel (listed.setIfInBounds i true) (a.put o.dst v) w') : wpAny P md ops Q (fuel + 1) listed a w :=
  wpAny_all hr (by simp) fun j hj => by
    simp only [List.mem_singleton] at hj
    subst hj
    exact op_at ho hg hv h
/-- either of two may -/
theorem any_two {i k : Nat} {o o2 : Oper} {v2 : Value} {w2 : World} (hr : Region.ready md ops listed = [i, k]) (ho : ops[i]? = some o) (hg : o.guard = none) (hv : (execOp a.eval o).run P w = .ok (.value v) w')
    (ho2 : ops[k]? = some o2) (hg2 : o2.guard = none) (hv2 : (execOp a.eval o2).run P w = .ok (.value v2) w2)
    (h : wpAny P md ops Q fuel (listed.setIfInBounds i true) (a.put o.dst v) w') (h2 : wpAny P md ops Q fuel (listed.setIfInBounds k true) (a.put o2.dst v2) w2) : wpAny P md ops Q (fuel + 1) listed a w :=
  wpAny_all hr (by simp) fun j hj => by
    simp only [List.mem_cons, List.not_mem_nil, or_false] at hj
    rcases hj with rfl | rfl
    · exact op_at ho hg hv h
    · exact op_at ho2 hg2 hv2 h2
/-- two reads, and a third operation behind the second of them -/
theorem any_three {i j k : Nat} {oi oj ok : Oper} {vi vj vk : Value} (hi : ops[i]? = some oi) (hj : ops[j]? = some oj) (hk : ops[k]? = some ok) (gi : oi.guard = none) (gj : oj.guard = none) (gk : ok.guard = none)
    (hij : i ≠ j) (hik : i ≠ k) (dij : ∀ d, oj.dst = some d → oi.dst ≠ some d) (dik : ∀ d, ok.dst = some d → oi.dst ≠ some d)
    (r1 : Region.ready md ops listed = [i, j]) (r2 : Region.ready md ops (listed.setIfInBounds i true) = [j]) (r3 : Region.ready md ops ((listed.setIfInBounds i true).setIfInBounds j true) = [k])
    (r4 : Region.ready md ops (listed.setIfInBounds j true) = [i, k]) (r5 : Region.ready md ops ((listed.setIfInBounds j true).setIfInBounds i true) = [k]) (r6 : Region.ready md ops ((listed.setIfInBounds j true).setIfInBounds k true) = [i])
    (i1 : (execOp a.eval oi).run P w = .ok (.value vi) w) (i2 : (execOp (a.put oj.dst vj).eval oi).run P w = .ok (.value vi) w) (i3 : (execOp ((a.put oj.dst vj).put ok.dst vk).eval oi).run P w' = .ok (.value vi) w')
    (j1 : (execOp a.eval oj).run P w = .ok (.value vj) w) (j2 : (execOp (a.put oi.dst vi).eval oj).run P w = .ok (.value vj) w)
    (k1 : (execOp ((a.put oi.dst vi).put oj.dst vj).eval ok).run P w = .ok (.value vk) w') (k2 : (execOp (a.put oj.dst vj).eval ok).run P w = .ok (.value vk) w') (k3 : (execOp ((a.put oj.dst vj).put oi.dst vi).eval ok).run P w = .ok (.value vk) w')
    (h : wpAny P md ops Q fuel (((listed.setIfInBounds i true).setIfInBounds j true).setIfInBounds k true) (((a.put oi.dst vi).put oj.dst vj).put ok.dst vk) w') : wpAny P md ops Q (fuel + 1 + 1 + 1) listed a w := by
  refine any_two r1 hi gi i1 hj gj j1 ?_ ?_
  · exact any_one hj r2 gj j2 (any_one hk r3 gk k1 h)
  · refine any_two r4 hi gi i2 hk gk k2 ?_ ?_
    · refine any_one hk r5 gk k3 ?_
      rw [Act.put_comm a vj vi dij, Array.setIfInBounds_comm _ _ (Ne.symm hij)]
      exact h
    · refine any_one hi r6 gi i3 ?_
      rw [Act.put_comm (a.put oj.dst vj) vk vi dik, Act.put_comm a vj vi dij, Array.setIfInBounds_comm _ _ (Ne.symm hik), Array.setIfInBounds_comm _ _ (Ne.symm hij)]
      exact h
/-- a region whose order is open -/
theorem region_open {id : Nat} (n : Nat) (hn : ops.size = n) (hm : P.follows .mixedOrders = true) (h : wpAny P .any ops Q n (Array.replicate n false) a w.drew) : (Code.region id ops true).wp P Q a w := by
  subst hn
  exact wp_region_any hm h
theorem exec_nilc {o : Oper} {x : Operand} {p : Addr} (hop : o.op = .nilCheck x) (hx : a.eval x = .pointer (some p)) : (execOp a.eval o).run P w = .ok (.value (.pointer (some p))) w := by
  unfold execOp
  simp [hop, hx]
/-- the rest in its only order -/
theorem any_rest {l : List Oper} (n : Nat) (hf : fuel = (l.drop n).length) (hB : Region.seqB .any l.toArray (l.drop n).length n listed = true) (h : wpList P l.toArray Q (l.drop n) a w) : wpAny P .any l.toArray Q fuel listed a w := by
  subst hf
  exact wpAny_of_seq (l.drop n) n listed a w (fun j => by simp [List.getElem?_drop]) hB h
theorem exec_move {o : Oper} {x : Operand} (hop : o.op = .move x) (hx : a.eval x = v) : (execOp a.eval o).run P w = .ok (.value v) w := by
  unfold execOp
  simp [hop, hx]
/-- three reads, in any order, and nothing else till then -/
theorem any_reads {i j k : Nat} {oi oj ok : Oper} {vi vj vk : Value} (hi : ops[i]? = some oi) (hj : ops[j]? = some oj) (hk : ops[k]? = some ok) (gi : oi.guard = none) (gj : oj.guard = none) (gk : ok.guard = none)
    (hij : i ≠ j) (hik : i ≠ k) (hjk : j ≠ k) (dij : ∀ d, oj.dst = some d → oi.dst ≠ some d) (dik : ∀ d, ok.dst = some d → oi.dst ≠ some d) (djk : ∀ d, ok.dst = some d → oj.dst ≠ some d)
    (r1 : Region.ready md ops listed = [i, j, k]) (r2 : Region.ready md ops (listed.setIfInBounds i true) = [j, k]) (r3 : Region.ready md ops (listed.setIfInBounds j true) = [i, k]) (r4 : Region.ready md ops (listed.setIfInBounds k true) = [i, j])
    (r5 : Region.ready md ops ((listed.setIfInBounds i true).setIfInBounds j true) = [k]) (r6 : Region.ready md ops ((listed.setIfInBounds i true).setIfInBounds k true) = [j]) (r7 : Region.ready md ops ((listed.setIfInBounds j true).setIfInBounds k true) = [i])
    (xi : ∀ b : Act, (b = a ∨ b = a.put oj.dst vj ∨ b = a.put ok.dst vk ∨ b = (a.put oj.dst vj).put ok.dst vk) → (execOp b.eval oi).run P w = .ok (.value vi) w)
    (xj : ∀ b : Act, (b = a ∨ b = a.put oi.dst vi ∨ b = a.put ok.dst vk ∨ b = (a.put oi.dst vi).put ok.dst vk) → (execOp b.eval oj).run P w = .ok (.value vj) w)
    (xk : ∀ b : Act, (b = a ∨ b = a.put oi.dst vi ∨ b = a.put oj.dst vj ∨ b = (a.put oi.dst vi).put oj.dst vj) → (execOp b.eval ok).run P w = .ok (.value vk) w)
    (h : wpAny P md ops Q fuel (((listed.setIfInBounds i true).setIfInBounds j true).setIfInBounds k true) (((a.put oi.dst vi).put oj.dst vj).put ok.dst vk) w) : wpAny P md ops Q (fuel + 1 + 1 + 1) listed a w := by
  have c1 : ∀ b : Act, (b.put oj.dst vj).put oi.dst vi = (b.put oi.dst vi).put oj.dst vj := fun b => Act.put_comm b vj vi dij
  have c2 : ∀ b : Act, (b.put ok.dst vk).put oi.dst vi = (b.put oi.dst vi).put ok.dst vk := fun b => Act.put_comm b vk vi dik
  have c3 : ∀ b : Act, (b.put ok.dst vk).put oj.dst vj = (b.put oj.dst vj).put ok.dst vk := fun b => Act.put_comm b vk vj djk
  have s1 : (listed.setIfInBounds j true).setIfInBounds i true = (listed.setIfInBounds i true).setIfInBounds j true := Array.setIfInBounds_comm _ _ (Ne.symm hij)
  have s2 : ∀ l : Array Bool, (l.setIfInBounds k true).setIfInBounds i true = (l.setIfInBounds i true).setIfInBounds k true := fun l => Array.setIfInBounds_comm _ _ (Ne.symm hik)
  have s3 : ∀ l : Array Bool, (l.setIfInBounds k true).setIfInBounds j true = (l.setIfInBounds j true).setIfInBounds k true := fun l => Array.setIfInBounds_comm _ _ (Ne.symm hjk)
  refine wpAny_all r1 (by simp) fun n hn => ?_
  simp only [List.mem_cons, List.not_mem_nil, or_false] at hn
  rcases hn with rfl | rfl | rfl
  · refine op_at hi gi (xi a (.inl rfl)) (any_two r2 hj gj (xj _ (.inr (.inl rfl))) hk gk (xk _ (.inr (.inl rfl))) (any_one hk r5 gk (xk _ (.inr (.inr (.inr rfl)))) h) (any_one hj r6 gj (xj _ (.inr (.inr (.inr rfl)))) ?_))
    rw [c3, s3]
    exact h
  · refine op_at hj gj (xj a (.inl rfl)) (any_two r3 hi gi (xi _ (.inr (.inl rfl))) hk gk (xk _ (.inr (.inr (.inl rfl)))) (any_one hk (by rw [s1]; exact r5) gk (by rw [c1]; exact xk _ (.inr (.inr (.inr rfl)))) ?_) (any_one hi r7 gi (xi _ (.inr (.inr (.inr rfl)))) ?_))
    · rw [c1, s1]
      exact h
    · rw [c2, c1, s2, s1]
      exact h
  · refine op_at hk gk (xk a (.inl rfl)) (any_two r4 hi gi (xi _ (.inr (.inr (.inl rfl)))) hj gj (xj _ (.inr (.inr (.inl rfl)))) (any_one hj (by rw [s2]; exact r6) gj (by rw [c2]; exact xj _ (.inr (.inr (.inr rfl)))) ?_) (any_one hi (by rw [s3]; exact r7) gi (by rw [c3]; exact xi _ (.inr (.inr (.inr rfl)))) ?_))
    · rw [c2, c3, s2, s3]
      exact h
    · rw [c3, c2, c1, s3, s2, s1]
      exact h
end
section
variable {a : Act} {w : World} {o : Oper} {x : Operand}
theorem exec_int {p : Addr} {v : Value} (hop : o.op = .load 3 x) (hx : a.eval x = .pointer (some p)) (hc : w.cell? p = some v) : (execOp a.eval o).run Tryz.prog w = .ok (.value v) w := by
  unfold execOp
  simp only [hop, hx]
  simp [go_sem, hc]
theorem exec_buildI {y : Int} (hop : o.op = .buildSlice 22 1 #[(0, x)]) (hx : a.eval x = .int .i64 y) :
    (execOp a.eval o).run Tryz.prog w = .ok (.value (.slice (some ⟨w.heap.size, 0, none⟩) 1 1)) (w.alloc (.cells #[.int .i64 y] 3)) := by
  obtain ⟨i, hi, hz, hs, _⟩ := info_parts (P := Tryz.prog) (e := 3) (z := .int .i64 0) (size := 1) (bytes := 8) (by kernel_rfl)
  have hrun := run_buildSlice (P := Tryz.prog) w 22 3 1 #[(0, .int .i64 y)] #[.int .i64 y] i (.int .i64 0) Tryz.underlying22 hi hz (by rw [hs]; omega) (by rw [hs]; omega) (by
    rw [hs]
    exact Go.Great.fill_flat [Value.int .i64 y] _ (fun v hv => by simp only [List.mem_singleton] at hv; subst hv; rfl) (by simp))
  unfold execOp
  simp only [hop, List.map_toArray, List.map_cons, List.map_nil, hx, Sem.run_bind, hrun, Result.andThen_ok, Sem.run_pure]
end
end Go.Proofs.YtildhebaikeknaaGreat
