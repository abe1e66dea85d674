/- Several texts in one: Marked. -/
import Derived.Test.YtildhebaikeknaaGreatPk1
import Derived.Lib.SlBytesConst
/-! Marked -/
namespace Go.Proofs.YtildhebaikeknaaGreat
open Go.RowKit
theorem lit_mk {k : IntKind} {w : World} {xs : List Int} {e : TypeId} {n len : Nat} {cs : Array Value} {fr : Nat × Nat} (hn : n = w.heap.size) (hc : cs = (xs.map (Value.int k)).toArray) (hl : len = xs.length) (hm : xs.length ≤ 1000000) :
    Sl k (w.alloc (.cells cs e fr)) (.slice (some ⟨n, 0, none⟩) len len) xs := by
  subst hn hc hl
  refine ⟨_, xs.length, rfl, Nat.le_refl _, by unfold maxLen; omega, .inr ⟨w.heap.size, 0, rfl, fun _ => by simp, fun i hi => ?_⟩⟩
  rw [World.cell?_alloc_mark]
  simp only [Nat.zero_add, List.getElem?_toArray, List.getElem?_map, List.getD_eq_getElem?_getD, List.getElem?_eq_getElem hi, Option.map_some, Option.getD_some]
theorem conv_const (w : World) (C : Array Value) (n c : Nat) : (convert 42 42 (.slice (some ⟨w.heap.size, 0, none⟩) n c)).run Tryz.prog (w.alloc (.cells C 5)) = .ok (.slice (some ⟨w.heap.size, 0, none⟩) n c) (w.alloc (.cells C 5 (C.size, C.size + 1))) :=
  Lib.run_convert_bytes_const w _ _ C n c Tryz.underlying42 Tryz.underlying5
end Go.Proofs.YtildhebaikeknaaGreat
