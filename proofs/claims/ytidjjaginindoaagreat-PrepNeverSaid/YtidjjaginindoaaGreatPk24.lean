/- Several texts in one: FoldOk. -/
import Derived.Test.YtidjjaginindoaaGreatPk21
import Derived.Test.YtidjjaginindoaaGreatPk3
/-! FoldOk -/
namespace Go.Proofs.YtidjjaginindoaaGreat
open Go.RowKit

def FOneOk : Prop := ∀ (c : Int) (w : World), inI c = true → Calls Tryz.prog 104 #[.int .i64 c] w fun e w' => ∃ x, e = .returned x ∧ Sl .i64 w' x (foldS c) ∧ Below w.heap.size w w'
def FAllOk : Prop := ∀ (v : Value) (s : List Int) (w : World), Sl .i64 w v s → s.all inI = true → s.length ≤ 1000000 → Calls Tryz.prog 22 #[v] w fun e w' => ∃ x, e = .returned x ∧ Own .i64 3 w.heap.size w' x (foldAllS s) ∧ Below w.heap.size w w'
theorem foldAll_inI {s : List Int} (hi : s.all inI = true) : (foldAllS s).all inI = true := by
  rw [List.all_eq_true]
  intro x hx
  unfold foldAllS at hx
  rw [List.mem_flatMap] at hx
  obtain ⟨c, hc, hx⟩ := hx
  exact List.all_eq_true.1 (fold_inI (List.all_eq_true.1 hi c hc)) x hx
theorem w12_all : foldAllS [83, 223] = [115, 115, 115] := by decide +kernel
theorem w12_one : foldS 49 = [49] := by decide +kernel

end Go.Proofs.YtidjjaginindoaaGreat
