/- Contract of the document's Compare: it answers cmpS of the two byte strings and changes nothing. -/
import Derived.Test.YtgdbjbkmkdkhhaaKeep
import Derived.Test.YtgdbjbkmkdkhhaaSetsAt
namespace Go.Proofs.Ytgdbjbkmkdkhhaa
open Go.RowKit

theorem ret_i64 {a b : Int} (h : a = b) : Ending.returned (.int .i64 a) = .returned (.int .i64 b) := by rw [h]

theorem refCompare (v1 v2 : Value) (xs ys : List Int) (w : World) (h1 : Sl .u8 w v1 xs) (h2 : Sl .u8 w v2 ys) :
    Calls Try.prog 16 #[v1, v2] w fun e w' => e = .returned (.int .i64 (cmpS xs ys)) ∧ ∃ n, w' = w.drewN n := by
  have m1 := h1.len
  have m2 := h2.len
  obtain ⟨a1, cap1, rfl, q1, -, h1⟩ := h1
  obtain ⟨a2, cap2, rfl, q2, -, h2⟩ := h2
  obtain ⟨l1, hl1⟩ : ∃ n, n = xs.length := ⟨_, rfl⟩
  obtain ⟨l2, hl2⟩ : ∃ n, n = ys.length := ⟨_, rfl⟩
  have hE : ∀ k, k ≤ l1 → k ≤ l2 → (k = l1 ∨ k = l2) → (∀ i, i < k → xs.getD i 0 = ys.getD i 0) → cmpS xs ys = if l1 < l2 then -1 else if l2 < l1 then 1 else 0 := by
    intro k h1 h2 he h
    rw [hl1] at h1 he ⊢
    rw [hl2] at h2 he ⊢
    exact cmpS_end h1 h2 h he
  have HE := hid hE
  clear hE
  by_cases h0 : l1 = 0 ∨ l2 = 0
  · rw [← hl1] at m1 ⊢
    rw [← hl2] at m2 ⊢
    have hR := hid (HE.out 0 (by omega) (by omega) (by omega) (fun i hi => absurd hi (by omega)))
    clear h1 h2 q1 q2 HE hl1 hl2
    go_enter Try.func16, Try.ntmps16
    go_wp2
    go_loopw [5] (fun i wr => i = .int .i64 0 ∧ wr = w) (fun i _ => 0)
    case atStart => exact ⟨rfl, rfl⟩
    case round =>
      obtain ⟨rfl, rfl⟩ := hrel
      rcases Nat.lt_trichotomy l1 l2 with hlt | hlt | hlt
      · go_wp2
        all_goals (go_ret; refine ⟨ret_i64 ?_, 0, rfl⟩; rw [hR.out, if_pos hlt])
      · go_wp2
        all_goals (go_ret; refine ⟨ret_i64 ?_, 0, rfl⟩; rw [hR.out, if_neg (by omega), if_neg (by omega)])
      · go_wp2
        all_goals (go_ret; refine ⟨ret_i64 ?_, 0, rfl⟩; rw [hR.out, if_neg (by omega), if_pos hlt])
  · rcases h1 with hc | ⟨b1, o1, rfl, hb1, c1⟩
    · omega
    rcases h2 with hc | ⟨b2, o2, rfl, hb2, c2⟩
    · omega
    rw [← hl1] at c1 m1 ⊢
    rw [← hl2] at c2 m2 ⊢
    clear q1 q2 hb1 hb2
    have C1 := hid c1
    have C2 := hid c2
    have HL1 := hid hl1
    have HL2 := hid hl2
    clear c1 c2 hl1 hl2
    go_enter Try.func16, Try.ntmps16
    go_wp2
    go_loopw [5] (fun i wr => ∃ k n : Nat, k ≤ l1 ∧ k ≤ l2 ∧ i = .int .i64 k ∧ wr = w.drewN n ∧ Hid (∀ i, i < k → xs.getD i 0 = ys.getD i 0)) (fun i _ => l1 - (intOf i).toNat)
    case atStart => exact ⟨0, 0, by omega, by omega, rfl, rfl, fun i hi => absurd hi (by omega)⟩
    case round =>
      obtain ⟨k, n, hk1, hk2, rfl, rfl, hall⟩ := hrel
      by_cases hlt : k < l1 ∧ k < l2
      · obtain ⟨hlt1, hlt2⟩ := hlt
        have d1 := C1.out k hlt1
        have d2 := C2.out k hlt2
        have hB := hid (cmpS_head (k := k) (xs := xs) (ys := ys) (by rw [← HL1.out]; exact hlt1) (by rw [← HL2.out]; exact hlt2) hall.out)
        have hN : xs.getD k 0 = ys.getD k 0 → ∀ i, i < k + 1 → xs.getD i 0 = ys.getD i 0 := fun he i hi => by
          rcases Nat.lt_or_ge i k with h | h
          · exact hall.out i h
          · obtain rfl : i = k := by omega
            exact he
        have HN := hid hN
        clear hN
        generalize xs.getD k 0 = x at d1 hB HN
        generalize ys.getD k 0 = y at d2 hB HN
        rcases Int.lt_trichotomy x y with hxy | hxy | hxy
        · go_wp2
          go_quiet (fail)
          go_wp2
          go_ret
          refine ⟨ret_i64 ?_, drewN_ex _ _ _⟩
          rw [hB.out, if_pos hxy]
        · have hN2 := hid (HN.out hxy)
          subst hxy
          go_wp2
          go_quiet (fail)
          go_wp2
          go_quiet (fail)
          go_wp2
          go_roundw
          case rel => exact ⟨k + 1, _, by omega, by omega, by go_num, rfl, hN2.out⟩
          case measure => simp [intOf]; omega
        · go_wp2
          go_quiet (fail)
          go_wp2
          go_quiet (fail)
          go_wp2
          go_ret
          refine ⟨ret_i64 ?_, by rw [World.drewN_drewN, World.drewN_drewN]; exact ⟨_, rfl⟩⟩
          rw [hB.out, if_neg (by omega), if_pos hxy]
      · have hR := hid (HE.out k hk1 hk2 (by omega) hall.out)
        rcases Nat.lt_trichotomy l1 l2 with hl | hl | hl
        · go_wp2
          all_goals (go_ret; refine ⟨ret_i64 ?_, n, rfl⟩; rw [hR.out, if_pos hl])
        · go_wp2
          all_goals (go_ret; refine ⟨ret_i64 ?_, n, rfl⟩; rw [hR.out, if_neg (by omega), if_neg (by omega)])
        · go_wp2
          all_goals (go_ret; refine ⟨ret_i64 ?_, n, rfl⟩; rw [hR.out, if_neg (by omega), if_pos hl])

end Go.Proofs.Ytgdbjbkmkdkhhaa
