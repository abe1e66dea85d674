/- Results that lie in a variable of the call: rows of two and of three numbers, tables, entries. No conditions. -/
import Derived.Test.YtcjfjbddooicjaaBase
namespace Go.Proofs.Ytcjfjbddooicjaa
open Go.RowKit

theorem asAddr_ptr6 (P : Program) (w : World) (a : Addr) : (asAddr (.pointer (some a))).run P w = .ok a w := by simp [asAddr]
theorem results_one {P : Program} {fn : Func} {p : Tmp} {ty : TypeId} (h : fn.results = #[.cell p ty]) {tmps : Array Value} {B : Nat} (hp : tmps.getD p undef = .pointer (some ⟨B, 0, none⟩)) {w : World} {y : Value} (hl : (loadVar ty ⟨B, 0, none⟩).run P w = .ok y w) :
    (results fn tmps).run P w = .ok y w := by
  have e : (results fn tmps).run P w = ((asAddr (tmps.getD p undef)).run P w).andThen fun a w₁ => (loadVar ty a).run P w₁ := by
    simp only [results, h]
    simp [Sem.run_bind, Result.andThen]
  rw [e, hp, asAddr_ptr6]
  simp only [Result.andThen]
  rw [hl]
theorem results_two {P : Program} {fn : Func} {p u : Tmp} {ty : TypeId} (h : fn.results = #[.cell p ty, .tmp u]) {tmps : Array Value} {B : Nat} (hp : tmps.getD p undef = .pointer (some ⟨B, 0, none⟩)) {w : World} {y : Value} (hl : (loadVar ty ⟨B, 0, none⟩).run P w = .ok y w) :
    (results fn tmps).run P w = .ok (.tuple #[y, tmps.getD u undef]) w := by
  have e : (results fn tmps).run P w = ((asAddr (tmps.getD p undef)).run P w).andThen fun a w₁ => ((loadVar ty a).run P w₁).andThen fun y w₂ => .ok (.tuple #[y, tmps.getD u undef]) w₂ := by
    simp only [results, h]
    simp [Sem.run_bind, Result.andThen]
  rw [e, hp, asAddr_ptr6]
  simp only [Result.andThen]
  rw [hl]
end Go.Proofs.Ytcjfjbddooicjaa
