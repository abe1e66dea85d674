/- Walk of law13's Utf8Bad, out of what is asked of package utf8. -/
import Derived.Test.YtajncbohgialaaaLawLengths13
namespace Go.Proofs.Ytajncbohgialaaa
open Go.RowKit

theorem box_at {t : TypeId} {cs : List Value} {w : World} {n : Nat} (hn : n = w.heap.size) : Box t cs n (w.alloc (.cells cs.toArray t)) := by
  subst hn
  exact Box.made _ _ _
theorem box_sl {xs : List Int} {B : Nat} {w : World} {m : Nat} (h : Box 5 (xs.map (Value.int .u8)) B w) (hm : m = xs.length) (hl : xs.length ≤ 1000000) : Sl .u8 w (.slice (some ⟨B, 0, none⟩) m m) xs := by
  subst hm
  refine ⟨_, _, rfl, Nat.le_refl _, by unfold maxLen; omega, .inr ⟨B, 0, rfl, fun _ => h.lt, fun i hi => ?_⟩⟩
  rw [h.cell (0 + i)]
  simp [List.getD_eq_getElem?_getD, hi]
theorem put_rep : ∀ n : Nat, putU (List.replicate n 97) = .inl (List.replicate n 97)
  | 0 => rfl
  | n + 1 => by
    rw [List.replicate_succ, putU, put_rep n]
    rfl
theorem get_rep {x : List Int} (h : getU x = .inr 0) (n : Nat) : getU (List.replicate n 97 ++ x) = .inr n := by
  rw [get_app x (put_rep n), h]
  simp
theorem rep_next (n : Nat) : List.replicate n (97 : Int) ++ [97] = List.replicate (n + 1) 97 := (List.replicate_succ').symm

end Go.Proofs.Ytajncbohgialaaa
