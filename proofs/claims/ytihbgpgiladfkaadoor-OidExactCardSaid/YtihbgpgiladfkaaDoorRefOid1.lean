/- Contracts of the document's own checks: whether a number lies between two, whether a list is an identifier. They change nothing. -/
import Derived.Test.YtihbgpgiladfkaaDoorOid1
namespace Go.Proofs.YtihbgpgiladfkaaDoor
open Go.RowKit

def inB (n lo hi : Int) : Bool := decide (lo ≤ n) && decide (n ≤ hi)
theorem refIn (n lo hi : Int) (w : World) : Calls Tryd.prog 27 #[.int .i64 n, .int .i64 lo, .int .i64 hi] w fun e w' => e = .returned (.bool (inB n lo hi)) ∧ w = w' := by
  go_enter Tryd.func27, Tryd.ntmps27
  go_wp2
  all_goals go_ret
  all_goals refine ⟨ret_bool ?_, rfl⟩
  all_goals first
    | (simp_all [inB]; done)
    | (simp_all [inB]; omega)

theorem ok_head {xs : List Int} (h : oidOk xs = true) : inB (xs.getD 0 0) 0 2 = true ∧ (xs.getD 0 0 < 2 → inB (xs.getD 1 0) 0 39 = true) ∧ inB (xs.getD 1 0) 0 9223372036854775727 = true := by
  match xs, h with
  | [], h => simp [oidOk] at h
  | [_], h => simp [oidOk] at h
  | a :: b :: r, h =>
    obtain ⟨⟨h1, h2, h3, h4, h5, h6⟩, h7⟩ := (oidOk_iff a b r).1 h
    unfold maxN at h6
    refine ⟨?_, fun hh => ?_, ?_⟩
    · show inB a 0 2 = true
      simp [inB]; omega
    · have := h4 hh
      show inB b 0 39 = true
      simp [inB]; omega
    · show inB b 0 9223372036854775727 = true
      simp [inB]; omega
theorem ok_of_chk {xs : List Int} (h : chk xs = 0) : oidOk xs = true := by
  unfold chk at h
  split at h
  · assumption
  · cases h

theorem refOid (v : Value) (xs : List Int) (w : World) (h : Sl .i64 w v xs) (hi : I64 xs) :
    Calls Tryd.prog 15 #[v] w fun e w' => e = .returned (.bool (oidOk xs)) ∧ w = w' := by
  have m := h.len
  obtain ⟨ad, cap, rfl, q, -, h⟩ := h
  by_cases hs : xs.length < 2 ∨ 40 < xs.length
  · have hr : oidOk xs = false := by
      refine Bool.eq_false_iff.2 fun hh => ?_
      have h0 := chk_ok hh
      rcases hs with hs | hs
      · rw [chk_short hs] at h0; cases h0
      · rw [chk_long hs] at h0; cases h0
    have hb : inB (xs.length : Int) 2 40 = false := by simp [inB]; omega
    have HR := hid hr
    clear h q hr hs
    generalize xs.length = len at hb m ⊢
    go_enter Tryd.func15, Tryd.ntmps15
    go_wp2_with (go_at_call 27; refine (refIn _ _ _ _).mono ?_; rintro e w' ⟨rfl, rfl⟩)
    go_ret
    rw [HR.out]
    exact ⟨rfl, rfl⟩
  rcases h with rfl | ⟨bb, o, rfl, -, c⟩
  · omega
  clear q
  have C := hid c
  clear c
  have hb : inB (xs.length : Int) 2 40 = true := by simp [inB]; omega
  obtain ⟨len, hlen⟩ : ∃ len, len = xs.length := ⟨_, rfl⟩
  rw [← hlen] at C m hs hb ⊢
  have HL := hid hlen
  clear hlen
  have d0 := C.out 0 (by omega)
  have d1 := C.out 1 (by omega)
  simp only [Nat.add_zero] at d0
  obtain ⟨x0, hx0⟩ : ∃ x, x = xs.getD 0 0 := ⟨_, rfl⟩
  obtain ⟨x1, hx1⟩ : ∃ x, x = xs.getD 1 0 := ⟨_, rfl⟩
  rw [← hx0] at d0
  rw [← hx1] at d1
  have HX := hid hx0
  have HY := hid hx1
  clear hx0 hx1
  have g5 : 0 < len := by omega
  have g6 : 1 < len := by omega
  go_enter Tryd.func15, Tryd.ntmps15
  go_wp2_with (go_at_call 27; refine (refIn _ _ _ _).mono ?_; rintro e w' ⟨rfl, rfl⟩)
  all_goals first
    | (go_ret
       refine ⟨ret_bool (Eq.symm (Bool.eq_false_iff.2 fun hh => ?_)), rfl⟩
       obtain ⟨k1, k2, k3⟩ := ok_head hh
       rw [← HX.out] at k1 k2
       rw [← HY.out] at k2 k3
       simp_all
       done)
    | skip
  all_goals
    have hmay : mayB x0 x1 = true ∧ 0 ≤ x0 ∧ 0 ≤ x1 := by
      have i1 : inB x0 0 2 = true := by assumption
      have i2 : inB x1 0 9223372036854775727 = true := by simp_all
      simp only [inB, Bool.and_eq_true, decide_eq_true_eq] at i1 i2
      refine ⟨mayB_iff.2 ?_, i1.1, i2.1⟩
      unfold maxN
      by_cases hx : x0 < 2
      · have i3 : inB x1 0 39 = true := by first | assumption | (exfalso; omega)
        simp only [inB, Bool.and_eq_true, decide_eq_true_eq] at i3
        omega
      · omega
    obtain ⟨hmay, p0, p1⟩ := hmay
    have HM := hid hmay
    clear hmay
    go_loop [3] (fun i => ∃ k : Nat, 2 ≤ k ∧ k ≤ len ∧ i = .int .i64 k ∧ Hid (∀ i, i < k → 0 ≤ xs.getD i 0)) (fun i => len - (intOf i).toNat)
    case atStart =>
      refine ⟨2, by omega, by omega, rfl, fun i hi => ?_⟩
      match i, hi with
      | 0, _ => rw [← HX.out]; exact p0
      | 1, _ => rw [← HY.out]; exact p1
    case round =>
      obtain ⟨k, hk2, hk, rfl, hall⟩ := hrel
      by_cases hlt : k < len
      · obtain ⟨x, hx⟩ : ∃ x, x = xs.getD k 0 := ⟨_, rfl⟩
        have dk := C.out k hlt
        rw [← hx] at dk
        have HZ := hid hx
        clear hx
        go_wp2_with (go_at_call 27; refine (refIn _ _ _ _).mono ?_; rintro e w' ⟨rfl, rfl⟩)
        · have hn : x < 0 := by assumption
          have hc := chk_neg (xs := xs) (k := k) (by rw [← HL.out]; exact hlt) (by rw [← HZ.out]; exact hn)
          go_ret
          refine ⟨ret_bool (Eq.symm (Bool.eq_false_iff.2 fun hh => ?_)), rfl⟩
          rw [chk_ok hh] at hc
          cases hc
        · have hn : ¬ x < 0 := by omega
          go_round
          case rel =>
            refine ⟨k + 1, by omega, by omega, by go_num, fun i hi => ?_⟩
            rcases Nat.lt_or_ge i k with h | h
            · exact hall.out i h
            · obtain rfl : i = k := by omega
              rw [← HZ.out]; omega
          case measure => simp [intOf]; omega
      · go_wp2
        go_ret
        rw [ok_of_chk (chk_good hi (by rw [← HL.out]; omega) (by rw [← HL.out]; omega) (by rw [← HX.out, ← HY.out]; exact HM.out) (fun i hi' => hall.out i (by rw [← HL.out] at hi'; omega)))]
        exact ⟨rfl, rfl⟩
end Go.Proofs.YtihbgpgiladfkaaDoor
