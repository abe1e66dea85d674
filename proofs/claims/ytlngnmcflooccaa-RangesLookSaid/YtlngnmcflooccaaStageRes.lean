/- A two-stage table that a function hands back by its result variable. No conditions. -/
import Derived.Test.YtlngnmcflooccaaBase
namespace Go.Proofs.Ytlngnmcflooccaa
open Go.RowKit

theorem asAddr_ptr' (P : Program) (w : World) (a : Addr) : (asAddr (.pointer (some a))).run P w = .ok a w := by simp [asAddr]
theorem loadStage {c0 c1 : Value} {B : Nat} {w : World} (h : Box 25 [c0, c1] B w) : (loadVar 25 ⟨B, 0, none⟩).run Try.prog w = .ok (.agg #[c0, c1]) w := by
  have k0 := h.cell 0
  have k1 := h.cell 1
  simp only [List.getElem?_cons_zero, List.getElem?_cons_succ] at k0 k1
  simp [go_sem, k0, k1]
theorem results_stage {fn : Func} {p : Tmp} (h : fn.results = #[.cell p 25]) {tmps : Array Value} {B : Nat} (hp : tmps.getD p undef = .pointer (some ⟨B, 0, none⟩)) {w : World} {c0 c1 : Value} (hb : Box 25 [c0, c1] B w) :
    (results fn tmps).run Try.prog w = .ok (.agg #[c0, c1]) w := by
  have e : (results fn tmps).run Try.prog w = ((asAddr (tmps.getD p undef)).run Try.prog w).andThen fun a w₁ => (loadVar 25 a).run Try.prog w₁ := by
    simp only [results, h]
    simp [Sem.run_bind, Result.andThen]
  rw [e, hp, asAddr_ptr']
  simp only [Result.andThen]
  rw [loadStage hb]
end Go.Proofs.Ytlngnmcflooccaa
