/- Contract of the document's Sorted: it answers sortedS of the rows and changes nothing. -/
import Derived.Test.YtgdbjbkmkdkhhaaGrid2
import Derived.Test.YtgdbjbkmkdkhhaaRefSets1
namespace Go.Proofs.Ytgdbjbkmkdkhhaa
open Go.RowKit

theorem refSorted (v : Value) (xss : List (List Int)) (w : World) (h1 : Rws w v xss) :
    Calls Try.prog 14 #[v] w fun e w' => e = .returned (.bool (sortedS xss)) ∧ ∃ n, w' = w.drewN n := by
  obtain ⟨vs1, l1, s1, r1⟩ := h1
  obtain ⟨a1, cap1, rfl, q1, m1, h1⟩ := s1
  have m1 : xss.length ≤ 9223372036854775807 := by unfold maxLen at m1; omega
  rw [l1] at q1 h1 ⊢
  obtain ⟨len, hlen⟩ : ∃ len, len = xss.length := ⟨_, rfl⟩
  have hT : (∀ i, 1 ≤ i → i < len → 0 ≤ cmpS (xss.getD i []) (xss.getD (i - 1) [])) → sortedS xss = true := by
    rw [hlen]; exact (sortedS_iff xss).2
  have hF : ∀ i, 1 ≤ i → i < len → cmpS (xss.getD i []) (xss.getD (i - 1) []) < 0 → sortedS xss = false := by
    intro i h1 h2 h3
    cases hs : sortedS xss with
    | false => rfl
    | true => have := (sortedS_iff xss).1 hs i h1 (by omega); omega
  have HT := hid hT
  have HF := hid hF
  clear hT hF
  rw [← hlen] at m1 q1 h1 r1 ⊢
  clear hlen l1
  rcases Nat.lt_or_ge 1 len with h0 | h0
  · rcases h1 with hc | ⟨b1, o1, rfl, hb1, c1⟩
    · omega
    clear q1 hb1
    have C1 := hid c1
    have R1 := hid r1
    clear c1 r1
    go_enter Try.func14, Try.ntmps14
    go_wp2
    go_loopw [3] (fun i wr => ∃ k n : Nat, 1 ≤ k ∧ k ≤ len ∧ i = .int .i64 k ∧ wr = w.drewN n ∧ Hid (∀ i, 1 ≤ i → i < k → 0 ≤ cmpS (xss.getD i []) (xss.getD (i - 1) []))) (fun i _ => len - (intOf i).toNat)
    case atStart => exact ⟨1, 0, by omega, by omega, rfl, rfl, fun i hi hi2 => absurd hi (by omega)⟩
    case round =>
      obtain ⟨k, n, hk1, hk, rfl, rfl, hall⟩ := hrel
      by_cases hlt : k < len
      · obtain ⟨m, rfl⟩ : ∃ m, k = m + 1 := ⟨k - 1, by omega⟩
        have d1 := C1.out (m + 1) hlt
        have d2 := C1.out m (by omega)
        have e1 := hid (R1.out (m + 1) hlt)
        have e2 := hid (R1.out m (by omega))
        have hN : 0 ≤ cmpS (xss.getD (m + 1) []) (xss.getD m []) → ∀ i, 1 ≤ i → i < m + 1 + 1 → 0 ≤ cmpS (xss.getD i []) (xss.getD (i - 1) []) := fun he i hi hi2 => by
          rcases Nat.lt_or_ge i (m + 1) with h | h
          · exact hall.out i hi h
          · obtain rfl : i = m + 1 := by omega
            simpa using he
        have hM : cmpS (xss.getD (m + 1) []) (xss.getD m []) < 0 → sortedS xss = false := fun h => HF.out (m + 1) (by omega) hlt (by simpa using h)
        have HN := hid hN
        have HM := hid hM
        clear hN hM
        generalize vs1.getD (m + 1) undef = u1 at d1 e1
        generalize vs1.getD m undef = u2 at d2 e2
        generalize xss.getD (m + 1) [] = X at e1 HN HM
        generalize xss.getD m [] = Y at e2 HN HM
        go_wp2
        go_quiet (first | (go_at_call 16; exact quiet_at (refCompare u1 u2 X Y _ (e1.out.drewN _) (e2.out.drewN _))))
        by_cases he : cmpS X Y < 0
        · have hM := hid (HM.out he)
          generalize cmpS X Y = c at he HN HM
          go_wp2
          go_ret
          exact ⟨ret_bool hM.out.symm, drewN_ex _ _ _⟩
        · have hN := hid (HN.out (by omega))
          generalize cmpS X Y = c at he HN HM
          go_wp2
          go_roundw
          case rel => exact ⟨m + 1 + 1, _, by omega, by omega, by go_num, rfl, hN.out⟩
          case measure => simp [intOf]; omega
      · have hR := hid (HT.out fun i hi1 hi2 => hall.out i hi1 (by omega))
        go_wp2
        go_ret
        exact ⟨ret_bool hR.out.symm, n, rfl⟩
  · have hR := hid (HT.out fun i hi1 hi2 => absurd hi1 (by omega))
    clear h1 r1 q1
    go_enter Try.func14, Try.ntmps14
    go_wp2
    go_loopw [3] (fun i wr => i = .int .i64 1 ∧ wr = w) (fun i _ => 0)
    case atStart => exact ⟨rfl, rfl⟩
    case round =>
      obtain ⟨rfl, rfl⟩ := hrel
      go_wp2
      go_ret
      exact ⟨ret_bool hR.out.symm, 0, rfl⟩

end Go.Proofs.Ytgdbjbkmkdkhhaa
