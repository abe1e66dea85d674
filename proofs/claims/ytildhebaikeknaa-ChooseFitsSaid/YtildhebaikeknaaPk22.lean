/- Several texts in one: Marked, NarOk. -/
import Derived.Test.YtildhebaikeknaaPk1
import Derived.Lib.SlBytesConst
import Derived.Test.YtildhebaikeknaaPk16
import Derived.Test.YtildhebaikeknaaPk18
import Derived.Laws.BytesArg
/-! Marked -/
namespace Go.Proofs.Ytildhebaikeknaa
open Go.RowKit
theorem lit_mk {k : IntKind} {w : World} {xs : List Int} {e : TypeId} {n len : Nat} {cs : Array Value} {fr : Nat × Nat} (hn : n = w.heap.size) (hc : cs = (xs.map (Value.int k)).toArray) (hl : len = xs.length) (hm : xs.length ≤ 1000000) :
    Sl k (w.alloc (.cells cs e fr)) (.slice (some ⟨n, 0, none⟩) len len) xs := by
  subst hn hc hl
  refine ⟨_, xs.length, rfl, Nat.le_refl _, by unfold maxLen; omega, .inr ⟨w.heap.size, 0, rfl, fun _ => by simp, fun i hi => ?_⟩⟩
  rw [World.cell?_alloc_mark]
  simp only [Nat.zero_add, List.getElem?_toArray, List.getElem?_map, List.getD_eq_getElem?_getD, List.getElem?_eq_getElem hi, Option.map_some, Option.getD_some]
theorem conv_const (w : World) (C : Array Value) (n c : Nat) : (convert 28 28 (.slice (some ⟨w.heap.size, 0, none⟩) n c)).run Try.prog (w.alloc (.cells C 5)) = .ok (.slice (some ⟨w.heap.size, 0, none⟩) n c) (w.alloc (.cells C 5 (C.size, C.size + 1))) :=
  Lib.run_convert_bytes_const w _ _ C n c Try.underlying28 Try.underlying5
end Go.Proofs.Ytildhebaikeknaa

/-! NarOk -/
namespace Go.Proofs.Ytildhebaikeknaa
open Go.RowKit

def NHasOk : Prop := ∀ (k c : Int) (w : World), inI c = true → Calls Try.prog 24 #[.int .i64 k, .int .i64 c] w fun e w' => e = .returned (.bool (narB k c)) ∧ Below w.heap.size w w'
def NPutOk : Prop := ∀ (k : Int) (v : Value) (s : List Int) (w : World), Sl .i64 w v s → s.all inI = true → s.length ≤ 100000 → Calls Try.prog 16 #[.int .i64 k, v] w fun e w' => ∃ x, e = .returned (.tuple #[x, .int .i64 (nput k s).2.1, .int .i64 (nput k s).2.2]) ∧ Own .u8 5 w.heap.size w' x (nput k s).1 ∧ Below w.heap.size w w'
theorem nput_ok {k : Int} {s x : List Int} {a : Int} (h : nput k s = (x, a, 0)) : x = s ∧ nget k s = (s, 0, 0) ∧ U8 s := by
  unfold nput at h
  cases hk : narK k with
  | false => rw [hk] at h; simp at h
  | true =>
    rw [hk] at h
    cases hs : nchk k s with
    | inr j => rw [hs] at h; simp [res3, outE] at h
    | inl y =>
      rw [hs] at h
      simp only [res3, outL, if_true, Prod.mk.injEq] at h
      refine ⟨by rw [← h.1]; exact (nchk_same hs).1, ?_, nchk_u8 hs⟩
      unfold nget
      rw [hk, nchk_self hs]
      rfl
theorem nget_ok {k : Int} {s x : List Int} {a : Int} (h : nget k s = (x, a, 0)) : x = s ∧ nput k s = (s, 0, 0) := by
  unfold nget at h
  cases hk : narK k with
  | false => rw [hk] at h; simp at h
  | true =>
    rw [hk] at h
    cases hs : nchk k s with
    | inr j => rw [hs] at h; simp [res3, outE] at h
    | inl y =>
      rw [hs] at h
      simp only [res3, outL, if_true, Prod.mk.injEq] at h
      refine ⟨by rw [← h.1]; exact (nchk_same hs).1, ?_⟩
      unfold nput
      rw [hk, nchk_self hs]
      rfl
theorem two_cells {w : World} {b o : Nat} {x y : Int} (h0 : w.cell? ⟨b, o, none⟩ = some (.int .u8 x)) (h1 : w.cell? ⟨b, o + 1, none⟩ = some (.int .u8 y)) : ∀ i, i < 2 → w.cell? ⟨b, o + i, none⟩ = some (.int .u8 ([x, y].getD i 0)) := fun i hi => by
  have : i = 0 ∨ i = 1 := by omega
  rcases this with rfl | rfl
  · exact h0
  · exact h1
theorem w15_get : nget 19 [97, 42] = ([], 1, 13) := by decide +kernel
theorem w15_put : nput 22 [97, 42] = ([97, 42], 0, 0) := by decide +kernel
theorem w15_str : strOfNums [97, 42] = ⟨#[97, 42]⟩ := by rfl

end Go.Proofs.Ytildhebaikeknaa
