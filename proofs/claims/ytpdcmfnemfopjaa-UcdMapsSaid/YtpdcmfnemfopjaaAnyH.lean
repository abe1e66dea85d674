/- Steps of regions whose order is open, where a condition on the world is held: allocations, stores. No conditions. -/
import Derived.Test.YtpdcmfnemfopjaaAnyOps
import Derived.OrdersHeld
namespace Go.Proofs.Ytpdcmfnemfopjaa
open Go.RowKit

section
variable {a : Act} {w : World} {o : Oper} {x : Operand}
theorem exec_allocM (hop : o.op = .alloc 45) : (execOp a.eval o).run Try.prog w = .ok (.value (.pointer (some ⟨w.heap.size, 0, none⟩))) (w.alloc (.cells #[.int .i64 0, .slice none 0 0] 45)) := by
  unfold execOp
  simp only [hop]
  simp [go_sem]
theorem exec_storeM {y : Operand} {B n c : Nat} {f : Int} {ad : Option Addr} {u v : Value} (hop : o.op = .store 45 x y) (hx : a.eval x = .pointer (some ⟨B, 0, none⟩)) (hy : a.eval y = .agg #[.int .i64 f, .slice ad n c]) (hb : Box 45 [u, v] B w) :
    (execOp a.eval o).run Try.prog w = .ok .skip ((w.setCell ⟨B, 0, none⟩ (.int .i64 f)).setCell ⟨B, 1, none⟩ (.slice ad n c)) := by
  have k0 := hb.cell 0
  have k1 := hb.cell 1
  have f0 := hb.ice 0
  have f1 := hb.ice 1
  simp only [List.getElem?_cons_zero, List.getElem?_cons_succ] at k0 k1
  unfold execOp
  simp only [hop, hx, hy]
  simp [go_sem, k0, k1, f0, f1]
end
section
variable {P : Program} {ops : Array Oper} {md : Region.Mode} {Q : Exit → Act → World → Prop} {S : World → Prop} {a : Act} {w w' : World} {fuel : Nat} {listed : Array Bool} {v : Value}
theorem anyH_one {i : Nat} {o : Oper} (hr : Region.ready md ops listed = [i]) (ho : ops[i]? = some o) (hg : o.guard = none) (hv : (execOp a.eval o).run P w = .ok (.value v) w') (hS : S w')
    (h : wpAnyH P md ops Q S fuel (listed.setIfInBounds i true) (a.put o.dst v) w') : wpAnyH P md ops Q S (fuel + 1) listed a w :=
  wpAnyH_all hr (by simp) fun j hj => by
    simp only [List.mem_singleton] at hj
    subst hj
    exact op_at ho hg hv ⟨hS, h⟩
theorem op_skip {i : Nat} {o : Oper} {K : Act → World → Prop} (ho : ops[i]? = some o) (hg : o.guard = none) (hd : o.dst = none) (hv : (execOp a.eval o).run P w = .ok .skip w') (h : K a w') : wpOp P ops Q i K a w := by
  unfold wpOp
  simp only [ho]
  rw [if_pos (by simp [Region.wanted, hg])]
  left
  unfold Oper.wp
  rw [hv]
  simpa [Oper.upon, hd, Act.put] using h
theorem anyH_skip {i : Nat} {o : Oper} (hr : Region.ready md ops listed = [i]) (ho : ops[i]? = some o) (hg : o.guard = none) (hd : o.dst = none) (hv : (execOp a.eval o).run P w = .ok .skip w') (hS : S w')
    (h : wpAnyH P md ops Q S fuel (listed.setIfInBounds i true) a w') : wpAnyH P md ops Q S (fuel + 1) listed a w :=
  wpAnyH_all hr (by simp) fun j hj => by
    simp only [List.mem_singleton] at hj
    subst hj
    exact op_skip ho hg hd hv ⟨hS, h⟩
theorem anyH_two {i k : Nat} {o o2 : Oper} {v2 : Value} {w2 : World} (hr : Region.ready md ops listed = [i, k]) (ho : ops[i]? = some o) (hg : o.guard = none) (hv : (execOp a.eval o).run P w = .ok (.value v) w') (hS : S w')
    (ho2 : ops[k]? = some o2) (hg2 : o2.guard = none) (hv2 : (execOp a.eval o2).run P w = .ok (.value v2) w2) (hS2 : S w2)
    (h : wpAnyH P md ops Q S fuel (listed.setIfInBounds i true) (a.put o.dst v) w') (h2 : wpAnyH P md ops Q S fuel (listed.setIfInBounds k true) (a.put o2.dst v2) w2) : wpAnyH P md ops Q S (fuel + 1) listed a w :=
  wpAnyH_all hr (by simp) fun j hj => by
    simp only [List.mem_cons, List.not_mem_nil, or_false] at hj
    rcases hj with rfl | rfl
    · exact op_at ho hg hv ⟨hS, h⟩
    · exact op_at ho2 hg2 hv2 ⟨hS2, h2⟩
end
end Go.Proofs.Ytpdcmfnemfopjaa
