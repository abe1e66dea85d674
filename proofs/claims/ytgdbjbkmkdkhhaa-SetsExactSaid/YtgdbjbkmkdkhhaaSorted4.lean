/- Contract of package sets' Sorted: it answers whether the rows are in order and changes nothing. -/
import Derived.Test.YtgdbjbkmkdkhhaaCmp4
import Derived.Test.YtgdbjbkmkdkhhaaGrid2
import Derived.Test.YtgdbjbkmkdkhhaaRefSets1
namespace Go.Proofs.Ytgdbjbkmkdkhhaa
open Go.RowKit

/-- rows of bytes -/
def RU (l : List (List Int)) : Prop := ∀ x ∈ l, U8 x
theorem RU.get {l : List (List Int)} (h : RU l) (i : Nat) : U8 (l.getD i []) := by
  rw [List.getD_eq_getElem?_getD]
  rcases Nat.lt_or_ge i l.length with hi | hi
  · rw [List.getElem?_eq_getElem hi]; exact h _ (List.getElem_mem hi)
  · rw [List.getElem?_eq_none hi]; exact U8.nil

set_option maxHeartbeats 1000000 in
set_option maxRecDepth 100000 in
theorem isSorted (v : Value) (xss : List (List Int)) (w : World) (h1 : Rws w v xss) (hu : RU xss) :
    Calls Try.prog 26 #[v, .func (.func 15) #[] #[]] w fun e w' => e = .returned (.bool (sortedS xss)) ∧ ∃ n, w' = w.drewN n := by
  obtain ⟨vs1, l1, s1, r1⟩ := h1
  obtain ⟨a1, cap1, rfl, q1, m1, h1⟩ := s1
  have m1 : xss.length ≤ 9223372036854775807 := by unfold maxLen at m1; omega
  rw [l1] at q1 h1 ⊢
  obtain ⟨len, hlen⟩ : ∃ len, len = xss.length := ⟨_, rfl⟩
  have hT : (∀ i, 1 ≤ i → i < len → 0 ≤ cmpS (xss.getD i []) (xss.getD (i - 1) [])) → sortedS xss = true := by
    rw [hlen]; exact (sortedS_iff xss).2
  have hF : ∀ i, 1 ≤ i → i < len → cmpS (xss.getD i []) (xss.getD (i - 1) []) < 0 → sortedS xss = false := by
    intro i h1 h2 h3
    cases hs : sortedS xss with
    | false => rfl
    | true => have := (sortedS_iff xss).1 hs i h1 (by omega); omega
  have HT := hid hT
  have HF := hid hF
  have HU := hid hu
  clear hT hF hu
  rw [← hlen] at m1 q1 h1 r1 ⊢
  clear hlen l1
  rcases Nat.eq_zero_or_pos len with h0 | h0
  · subst h0
    have hR := hid (HT.out fun i hi1 hi2 => absurd hi1 (by omega))
    clear h1 r1 q1 HT HF
    go_enter Try.func26, Try.ntmps26
    go_wp2
    go_loopw [5] (fun i wr => i = .int .i64 (-1) ∧ wr = w) (fun i _ => 0)
    case atStart => exact ⟨rfl, rfl⟩
    case round =>
      obtain ⟨rfl, rfl⟩ := hrel
      go_wp2
      go_ret
      exact ⟨ret_bool hR.out.symm, 0, rfl⟩
  · rcases h1 with hc | ⟨b1, o1, rfl, hb1, c1⟩
    · omega
    clear q1 hb1
    have C1 := hid c1
    have R1 := hid r1
    clear c1 r1
    obtain ⟨l0, hl0⟩ : ∃ l0, l0 + 1 = len := ⟨len - 1, by omega⟩
    have w0 : (len : Int) - 1 = (l0 : Int) := by omega
    have HL0 := hid hl0
    clear hl0
    go_enter Try.func26, Try.ntmps26
    go_wp2
    go_loopw [5] (fun i wr => ∃ k n : Nat, k < len ∧ i = .int .i64 k ∧ wr = w.drewN n ∧ Hid (∀ i, k + 1 ≤ i → i < len → 0 ≤ cmpS (xss.getD i []) (xss.getD (i - 1) []))) (fun i _ => (intOf i).toNat)
    case atStart => exact ⟨l0, 0, by have := HL0.out; omega, rfl, rfl, fun i hi hi2 => absurd hi (by have := HL0.out; omega)⟩
    case round =>
      obtain ⟨k, n, hk, rfl, rfl, hall⟩ := hrel
      by_cases hk0 : 0 < k
      · obtain ⟨m, hm⟩ : ∃ m, k = m + 1 := ⟨k - 1, by omega⟩
        have d1 := C1.out k hk
        have d2 := C1.out m (by omega)
        have e1 := hid (R1.out k hk)
        have e2 := hid (R1.out m (by omega))
        have u1 := hid (HU.out.get k)
        have u2 := hid (HU.out.get m)
        have hN : 0 ≤ cmpS (xss.getD k []) (xss.getD m []) → ∀ i, m + 1 ≤ i → i < len → 0 ≤ cmpS (xss.getD i []) (xss.getD (i - 1) []) := fun he i hi hi2 => by
          rcases Nat.lt_or_ge k i with h | h
          · exact hall.out i h hi2
          · obtain rfl : i = m + 1 := by omega
            rw [← hm, show k - 1 = m by omega]; exact he
        have hM : cmpS (xss.getD k []) (xss.getD m []) < 0 → sortedS xss = false := fun h => HF.out k (by omega) hk (by rw [show k - 1 = m by omega]; exact h)
        have HN := hid hN
        have HM := hid hM
        have w1 : (k : Int) - 1 = (m : Int) := by omega
        have hmk : m < len := by omega
        have HK := hid hm
        clear hN hM hm
        generalize vs1.getD k undef = u1' at d1 e1
        generalize vs1.getD m undef = u2' at d2 e2
        generalize xss.getD k [] = X at e1 HN HM u1
        generalize xss.getD m [] = Y at e2 HN HM u2
        go_wp2
        go_quiet (first | (go_at_call 15; exact quiet_same (setsCompare u1' u2' X Y _ (e1.out.drewN _) (e2.out.drewN _) u1.out u2.out)))
        by_cases he : cmpS X Y < 0
        · have hM := hid (HM.out he)
          generalize cmpS X Y = c at he HN HM
          go_wp2
          go_ret
          exact ⟨ret_bool hM.out.symm, drewN_ex _ _ _⟩
        · have hN := hid (HN.out (by omega))
          generalize cmpS X Y = c at he HN HM
          go_wp2
          go_roundw
          case rel => exact ⟨m, _, hmk, by first | rfl | go_num, rfl, hN.out⟩
          case measure => have := HK.out; simp [intOf]; omega
      · have hR := hid (HT.out fun i hi1 hi2 => hall.out i (by omega) hi2)
        obtain rfl : k = 0 := by omega
        go_wp2
        go_ret
        exact ⟨ret_bool hR.out.symm, n, rfl⟩
theorem setsSorted (v : Value) (xss : List (List Int)) (w : World) (h1 : Rws w v xss) (hu : RU xss) :
    Calls Try.prog 13 #[v] w fun e w' => e = .returned (.bool (sortedS xss)) ∧ ∃ n, w' = w.drewN n := by
  go_enter Try.func13, Try.ntmps13
  go_wp2_with (go_at_call 26; refine (isSorted v xss w h1 hu).mono ?_; rintro e w' ⟨rfl, n, rfl⟩)
  go_ret
  exact ⟨rfl, n, rfl⟩
end Go.Proofs.Ytgdbjbkmkdkhhaa
