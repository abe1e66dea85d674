/- Contract of layer 4's bound: it answers whether there are more than 60 rows or one longer than 100, and changes nothing. -/
import Derived.Test.YtgdbjbkmkdkhhaaGrid
namespace Go.Proofs.Ytgdbjbkmkdkhhaa
open Go.RowKit

def heavyS (l : List (List Int)) : Bool := decide (60 < l.length ∨ ∃ x ∈ l, 100 < x.length)
theorem heavyS_false {l : List (List Int)} (h : heavyS l = false) : l.length ≤ 60 ∧ ∀ x ∈ l, x.length ≤ 100 := by
  simp [heavyS] at h
  exact ⟨by omega, fun x hx => by have := h.2 x hx; omega⟩

theorem lawHeavy (v : Value) (xss : List (List Int)) (w : World) (h1 : Rws w v xss) :
    Calls Try.prog 7 #[v] w fun e w' => e = .returned (.bool (heavyS xss)) ∧ ∃ n, w' = w.drewN n := by
  obtain ⟨vs1, l1, s1, r1⟩ := h1
  obtain ⟨a1, cap1, rfl, q1, m1, h1⟩ := s1
  have m1 : xss.length ≤ 9223372036854775807 := by unfold maxLen at m1; omega
  rw [l1] at q1 h1 ⊢
  obtain ⟨len, hlen⟩ : ∃ len, len = xss.length := ⟨_, rfl⟩
  have hL : 60 < len → heavyS xss = true := fun h => by simp [heavyS]; left; omega
  have hF : ∀ i, i < len → 100 < (xss.getD i []).length → heavyS xss = true := fun i hi h => by
    simp [heavyS]
    refine .inr ⟨xss[i], List.getElem_mem _, ?_⟩
    simpa [List.getD_eq_getElem?_getD, List.getElem?_eq_getElem (show i < xss.length by omega)] using h
  have hT : len ≤ 60 → (∀ i, i < len → (xss.getD i []).length ≤ 100) → heavyS xss = false := fun h1 h2 => by
    simp [heavyS]
    refine ⟨by omega, fun x hx => ?_⟩
    obtain ⟨i, hi, rfl⟩ := List.getElem_of_mem hx
    have := h2 i (by omega)
    simpa [List.getD_eq_getElem?_getD, List.getElem?_eq_getElem hi] using this
  have HL := hid hL
  have HF := hid hF
  have HT := hid hT
  clear hL hF hT
  rw [← hlen] at m1 q1 h1 r1 ⊢
  clear hlen l1
  by_cases hb : 60 < len
  · have hr := hid (HL.out hb)
    clear h1 r1 q1 HF HT HL
    go_enter Try.func7, Try.ntmps7
    go_wp2
    go_ret
    exact ⟨ret_bool hr.out.symm, 0, rfl⟩
  · rcases Nat.eq_zero_or_pos len with h0 | h0
    · subst h0
      have hr := hid (HT.out (by omega) (fun i hi => absurd hi (by omega)))
      clear h1 r1 q1 HF HT HL
      go_enter Try.func7, Try.ntmps7
      go_wp2
      go_loopw [3] (fun i wr => i = .int .i64 0 ∧ wr = w) (fun _ _ => 0)
      case atStart => exact ⟨rfl, rfl⟩
      case round =>
        obtain ⟨rfl, rfl⟩ := hrel
        go_wp2
        go_ret
        exact ⟨ret_bool hr.out.symm, 0, rfl⟩
    · rcases h1 with hc | ⟨b1, o1, rfl, hb1, c1⟩
      · omega
      clear q1 hb1
      have C1 := hid c1
      have R1 := hid r1
      clear c1 r1
      go_enter Try.func7, Try.ntmps7
      go_wp2
      go_loopw [3] (fun i wr => ∃ k n : Nat, k ≤ len ∧ i = .int .i64 k ∧ wr = w.drewN n ∧ Hid (∀ i, i < k → (xss.getD i []).length ≤ 100)) (fun i _ => len - (intOf i).toNat)
      case atStart => exact ⟨0, 0, by omega, rfl, rfl, fun i hi => absurd hi (by omega)⟩
      case round =>
        obtain ⟨k, n, hk, rfl, rfl, hall⟩ := hrel
        by_cases hlt : k < len
        · have d1 := C1.out k hlt
          have hml := (R1.out k hlt).len
          obtain ⟨a2, c2, hu⟩ := (R1.out k hlt).form
          have hbad := hid (HF.out k hlt)
          have hN : (xss.getD k []).length ≤ 100 → ∀ i, i < k + 1 → (xss.getD i []).length ≤ 100 := fun he i hi => by
            rcases Nat.lt_or_ge i k with h | h
            · exact hall.out i h
            · obtain rfl : i = k := by omega
              exact he
          have HN := hid hN
          clear hN
          rw [hu] at d1
          clear hu
          generalize (xss.getD k []).length = m at d1 hml hbad HN
          by_cases hm : 100 < m
          · have hr := hid (hbad.out hm)
            go_wp2
            go_ret
            exact ⟨ret_bool hr.out.symm, n, rfl⟩
          · have hr := hid (HN.out (by omega))
            go_wp2
            go_roundw
            case rel => exact ⟨k + 1, n, by omega, by go_num, rfl, hr.out⟩
            case measure => simp [intOf]; omega
        · have hr := hid (HT.out (by omega) (fun i hi => hall.out i (by omega)))
          go_wp2
          go_ret
          exact ⟨ret_bool hr.out.symm, n, rfl⟩

end Go.Proofs.Ytgdbjbkmkdkhhaa
