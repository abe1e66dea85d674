/- Contracts of the document's PutWide and GetWide at any size. No conditions. -/
import Derived.Test.YtcbijgmlmcpidaaRef14
namespace Go.Proofs.Ytcbijgmlmcpidaa
open Go.RowKit

set_option maxRecDepth 10000 in
set_option maxHeartbeats 4000000 in
theorem refPut14 (v : Value) (s : List Int) (size : Int) (w : World) (hs : Sl .i64 w v s) (hl : s.length ≤ 100000) : Calls Try.prog 9 #[v, .int .i64 size] w fun e w' =>
    ∃ x, e = .returned (.tuple #[x, .int .i64 (wput size s).2.1, .int .i64 (wput size s).2.2]) ∧ Sl .u8 w' x (wput size s).1 ∧ Below w.heap.size w w' := by
  by_cases h2 : size = 2
  · subst h2
    exact refPut14_false v s w hs hl
  · by_cases h4 : size = 4
    · subst h4
      exact refPut14_true v s w hs hl
    · have e : wput size s = ([], 0, 1) := by unfold wput; rw [if_neg h2, if_neg h4]
      rw [e]
      obtain ⟨a1, cap1, rfl, q1, -, h1⟩ := hs
      have e2 : (size != 2) = true := by simp [h2]
      have e4 : (size != 4) = true := by simp [h4]
      clear e h1
      go_enter Try.func9, Try.ntmps9
      go_wp2
      go_ret3
      exact ⟨_, rfl, (Own.nil .u8 5 0 _).sl, Below.refl _ _⟩

set_option maxRecDepth 10000 in
set_option maxHeartbeats 4000000 in
theorem refGet14 (v : Value) (s : List Int) (size : Int) (w : World) (hs : Sl .u8 w v s) (hu : U8 s) (hl : s.length ≤ 1000000) : Calls Try.prog 10 #[v, .int .i64 size] w fun e w' =>
    ∃ x, e = .returned (.tuple #[x, .int .i64 (wget size s).2.1, .int .i64 (wget size s).2.2]) ∧ Sl .i64 w' x (wget size s).1 ∧ Below w.heap.size w w' := by
  by_cases h2 : size = 2
  · subst h2
    exact refGet14_false v s w hs hu hl
  · by_cases h4 : size = 4
    · subst h4
      exact refGet14_true v s w hs hu hl
    · have e : wget size s = ([], 0, 1) := by unfold wget; rw [if_neg h2, if_neg h4]
      rw [e]
      obtain ⟨a1, cap1, rfl, q1, -, h1⟩ := hs
      have e2 : (size != 2) = true := by simp [h2]
      have e4 : (size != 4) = true := by simp [h4]
      clear e h1
      go_enter Try.func10, Try.ntmps10
      go_wp2
      go_ret3
      exact ⟨_, rfl, (Own.nil .i64 3 0 _).sl, Below.refl _ _⟩
end Go.Proofs.Ytcbijgmlmcpidaa
