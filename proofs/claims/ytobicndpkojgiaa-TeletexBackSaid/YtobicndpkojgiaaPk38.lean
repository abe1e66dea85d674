/- Several texts in one: Guarded. -/
import Derived.Test.YtobicndpkojgiaaPk1
/-! Guarded -/
namespace Go.Proofs.Ytobicndpkojgiaa
open Go.RowKit

theorem wpList_guarded {P : Program} {ops : Array Oper} {Q : Exit → Act → World → Prop} {rest : List Oper} {o : Oper} {a : Act} {w : World} (hw : Region.wanted o (yielded ops a.tmps) = true) (h : wpList P ops Q ({ o with guard := none } :: rest) a w) : wpList P ops Q (o :: rest) a w := by
  unfold wpList at h ⊢
  rw [if_pos hw]
  rw [if_pos (by simp [Region.wanted])] at h
  exact h
end Go.Proofs.Ytobicndpkojgiaa
