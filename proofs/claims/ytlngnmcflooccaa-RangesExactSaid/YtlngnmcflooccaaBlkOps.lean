/- Operations on whole blocks of 256 numbers, in a fixed order: laid, loaded, an element of one. No conditions. -/
import Derived.Test.YtlngnmcflooccaaPool3
import Derived.Deep.MidRow
import Derived.Deep.WholeRow
namespace Go.Proofs.Ytlngnmcflooccaa
open Go.RowKit Go.Maps

theorem list_at {P : Program} {ops : Array Oper} {Q : Exit → Act → World → Prop} {a : Act} {w w' : World} {v : Value} {o : Oper} {rest : List Oper} (hg : o.guard = none) (hv : (execOp a.eval o).run P w = .ok (.value v) w') (h : wpList P ops Q rest (a.put o.dst v) w') : wpList P ops Q (o :: rest) a w :=
  wpList_plain hg fun K hK => by
    unfold Oper.wp
    rw [hv]
    exact hK _ _ h
section
variable {a : Act} {w : World} {o : Oper} {x y : Operand}
theorem exec_loadM {cs : List Value} {g off : Nat} (hop : o.op = .load 52 x) (hx : a.eval x = .pointer (some ⟨g, off, none⟩)) (hb : w.rangeAt g off cs) (hl : cs.length = 256) : (execOp a.eval o).run Try.prog w = .ok (.value (.agg cs.toArray)) w := by
  unfold execOp
  simp only [hop, hx, Instr.loadAt, Instr.sureAddr, Sem.run_bind, Sem.run_pure, Result.andThen_ok, run_loadVar_mid w g off 52 cs _ hb blk_under rfl (by rw [hl]; kernel_rfl)]
theorem exec_elem {cs : List Value} {j : Nat} {u : Value} (hop : o.op = .index 52 x y) (hx : a.eval x = .agg cs.toArray) (hy : a.eval y = .int .i64 j) (hj : j < 256) (hu : cs[j]? = some u) : (execOp a.eval o).run Try.prog w = .ok (.value u) w := by
  have e1 : (0 : Int) ≤ (j : Int) ∧ (j : Int) < ((256 : Nat) : Int) := by omega
  unfold execOp
  simp only [hop, hx, hy]
  simp only [Instr.index, asIntOf, Sem.run_bind, Sem.run_pure, run_underlying blk_under, Result.andThen_ok, if_pos e1, Try.sizeOf50, part, Try.isAgg50, Int.toNat_natCast, Nat.mul_one, List.getElem?_toArray, hu, Bool.false_eq_true, if_false]
theorem blk_zval : (Try.prog.info? 52).map (fun i => (i.zero, i.size)) = some (some (.agg (uv (con 0)).toArray), 256) := by kernel_rfl
theorem exec_allocB (hop : o.op = .alloc 52) : (execOp a.eval o).run Try.prog w = .ok (.value (.pointer (some ⟨w.heap.size, 0, none⟩))) (w.alloc (.cells (uv (con 0)).toArray 52)) := by
  have hz := (zero_of_info (P := Try.prog) blk_zval).1 w
  unfold execOp
  simp only [hop]
  simp [Instr.alloc, hz, newVar, newRow, Value.cells, Result.andThen]
end
/-- the cells of the i-th block of a row -/
theorem row_block {w : World} {base : Nat} {v : Value} {bs : List (List Int)} (h : w.ownsRow base 52 256 v bs.length (uv bs.flatten)) (he : ∀ b ∈ bs, b.length = 256) {i : Nat} (hi : i < bs.length) :
    ∃ g cap, v = .slice (some ⟨g, 0, none⟩) bs.length cap ∧ g < w.heap.size ∧ w.rangeAt g (i * 256) (uv (bs.getD i [])) := by
  rcases h.2 with ⟨rfl, hn⟩ | ⟨g, cap, cur, rfl, hb, hg, hnc, hcm, hcs, ht⟩
  · omega
  · refine ⟨g, cap, rfl, (Array.getElem?_eq_some_iff.1 hg).1, fun j u hj => ?_⟩
    have hlen : (uv (bs.getD i [])).length = 256 := by
      rw [uv_len, List.getD_eq_getElem?_getD, List.getElem?_eq_getElem hi]
      exact he _ (List.getElem_mem hi)
    have hj2 : j < 256 := by have := (List.getElem?_eq_some_iff.1 hj).1; omega
    have hat : (uv bs.flatten)[i * 256 + j]? = some u := by
      have h1 := flat_at (bs := bs) (q := i) (i := j) he hi hj2
      rw [uv_at (by rw [uv_len] at hlen; omega)] at hj
      rw [uv_at (by rw [flat_len he]; omega), show i * 256 + j = 256 * i + j by omega, h1]
      exact hj
    rw [cell_of_row w g (i * 256 + j) cur 52 (0, 0) hg, ← hat, ← ht, List.getElem?_take, if_pos (by omega)]
    simp
end Go.Proofs.Ytlngnmcflooccaa
