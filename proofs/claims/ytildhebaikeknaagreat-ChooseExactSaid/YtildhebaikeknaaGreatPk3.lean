/- Several texts in one: Res6, Grow. -/
import Derived.Test.YtildhebaikeknaaGreatPk1
/-! Res6 -/
namespace Go.Proofs.YtildhebaikeknaaGreat
open Go.RowKit

theorem asAddr_ptr6 (P : Program) (w : World) (a : Addr) : (asAddr (.pointer (some a))).run P w = .ok a w := by simp [asAddr]
theorem results_one {P : Program} {fn : Func} {p : Tmp} {ty : TypeId} (h : fn.results = #[.cell p ty]) {tmps : Array Value} {B : Nat} (hp : tmps.getD p undef = .pointer (some ⟨B, 0, none⟩)) {w : World} {y : Value} (hl : (loadVar ty ⟨B, 0, none⟩).run P w = .ok y w) :
    (results fn tmps).run P w = .ok y w := by
  have e : (results fn tmps).run P w = ((asAddr (tmps.getD p undef)).run P w).andThen fun a w₁ => (loadVar ty a).run P w₁ := by
    simp only [results, h]
    simp [Sem.run_bind, Result.andThen]
  rw [e, hp, asAddr_ptr6]
  simp only [Result.andThen]
  rw [hl]
theorem results_two {P : Program} {fn : Func} {p u : Tmp} {ty : TypeId} (h : fn.results = #[.cell p ty, .tmp u]) {tmps : Array Value} {B : Nat} (hp : tmps.getD p undef = .pointer (some ⟨B, 0, none⟩)) {w : World} {y : Value} (hl : (loadVar ty ⟨B, 0, none⟩).run P w = .ok y w) :
    (results fn tmps).run P w = .ok (.tuple #[y, tmps.getD u undef]) w := by
  have e : (results fn tmps).run P w = ((asAddr (tmps.getD p undef)).run P w).andThen fun a w₁ => ((loadVar ty a).run P w₁).andThen fun y w₂ => .ok (.tuple #[y, tmps.getD u undef]) w₂ := by
    simp only [results, h]
    simp [Sem.run_bind, Result.andThen]
  rw [e, hp, asAddr_ptr6]
  simp only [Result.andThen]
  rw [hl]
theorem loadC3 {a b c : Value} {B : Nat} {w : World} (h : Box 49 [a, b, c] B w) : (loadVar 49 ⟨B, 0, none⟩).run Tryz.prog w = .ok (.agg #[a, b, c]) w := by
  have k0 := h.cell 0
  have k1 := h.cell 1
  have k2 := h.cell 2
  simp only [List.getElem?_cons_zero, List.getElem?_cons_succ] at k0 k1 k2
  simp [go_sem, k0, k1, k2]
theorem loadC2 {a b : Value} {B : Nat} {w : World} (h : Box 127 [a, b] B w) : (loadVar 127 ⟨B, 0, none⟩).run Tryz.prog w = .ok (.agg #[a, b]) w := by
  have k0 := h.cell 0
  have k1 := h.cell 1
  simp only [List.getElem?_cons_zero, List.getElem?_cons_succ] at k0 k1
  simp [go_sem, k0, k1]
theorem loadMp {a b : Value} {B : Nat} {w : World} (h : Box 70 [a, b] B w) : (loadVar 70 ⟨B, 0, none⟩).run Tryz.prog w = .ok (.agg #[a, b]) w := by
  have k0 := h.cell 0
  have k1 := h.cell 1
  simp only [List.getElem?_cons_zero, List.getElem?_cons_succ] at k0 k1
  simp [go_sem, k0, k1]
theorem loadT1 {a b : Value} {B : Nat} {w : World} (h : Box 119 [a, b] B w) : (loadVar 119 ⟨B, 0, none⟩).run Tryz.prog w = .ok (.agg #[a, b]) w := by
  have k0 := h.cell 0
  have k1 := h.cell 1
  simp only [List.getElem?_cons_zero, List.getElem?_cons_succ] at k0 k1
  simp [go_sem, k0, k1]
theorem loadT2 {a b : Value} {B : Nat} {w : World} (h : Box 124 [a, b] B w) : (loadVar 124 ⟨B, 0, none⟩).run Tryz.prog w = .ok (.agg #[a, b]) w := by
  have k0 := h.cell 0
  have k1 := h.cell 1
  simp only [List.getElem?_cons_zero, List.getElem?_cons_succ] at k0 k1
  simp [go_sem, k0, k1]
theorem eq_c2 (b c p q : Int) (w : World) : (binOp .eql 127 (.agg #[.int .i64 b, .int .i64 c]) (.agg #[.int .i64 p, .int .i64 q])).run Tryz.prog w = .ok (.bool (b == p && c == q)) w := by
  have u3 := Tryz.underlying3
  have a3 := Tryz.isAgg3
  have z3 := Tryz.sizeOf3
  rw [run_eql_struct, show (10000 : Nat) = 9999 + 1 from rfl]
  unfold Op.equalIn
  simp only [Sem.run_bind, run_underlying Tryz.underlying127, Result.andThen_ok]
  go_simp
  rw [show List.range' 0 2 = [0, 1] from rfl]
  simp only [List.forIn_cons, List.forIn_nil]
  go_simp
  by_cases h1 : b = p <;> by_cases h2 : c = q <;> simp [h1, h2, go_sem]
end Go.Proofs.YtildhebaikeknaaGreat

/-! Grow -/
namespace Go.Proofs.YtildhebaikeknaaGreat
open Go.RowKit

theorem grow_set1 {a w : World} {B : Nat} (h : a.grownBy w (some B)) (j : Nat) (v : Value) : a.grownBy (w.setCell ⟨B, j, none⟩ v) (some B) := by
  have k : w.grownBy (w.setCell ⟨B, j, none⟩ v) (some B) := ⟨rfl, rfl, rfl, by simp [World.setCell], fun i _ hn => Below.heap_setCell _ _ _ _ (fun e => hn (by rw [e]))⟩
  exact ⟨k.os.trans h.os, k.tape.trans h.tape, k.output.trans h.output, Nat.le_trans h.size k.size, fun i hi hn => (k.block i (Nat.lt_of_lt_of_le hi h.size) hn).trans (h.block i hi hn)⟩

theorem grow_new (w : World) (o : Obj) (r : Option Nat) : w.grownBy (w.alloc o) r := ⟨rfl, rfl, rfl, by simp, fun i hi _ => Below.heap_alloc w o i hi⟩
theorem grow_trans {a b c : World} {r : Option Nat} (h : a.grownBy b r) (k : b.grownBy c r) : a.grownBy c r :=
  ⟨k.os.trans h.os, k.tape.trans h.tape, k.output.trans h.output, Nat.le_trans h.size k.size, fun i hi hn => (k.block i (Nat.lt_of_lt_of_le hi h.size) hn).trans (h.block i hi hn)⟩
end Go.Proofs.YtildhebaikeknaaGreat
