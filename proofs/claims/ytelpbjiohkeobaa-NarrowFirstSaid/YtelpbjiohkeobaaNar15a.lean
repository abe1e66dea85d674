/- Contracts of package narrow's small functions and of Has. No conditions. -/
import Derived.Test.YtelpbjiohkeobaaNarOk
namespace Go.Proofs.Ytelpbjiohkeobaa
open Go.RowKit

theorem narKind (k : Int) (w : World) : Calls Try.prog 17 #[.int .i64 k] w fun e w' => e = .returned (.bool (narK k)) ∧ w = w' := by
  by_cases h : k = 18 ∨ k = 19 ∨ k = 22 ∨ k = 26
  · rcases h with rfl | rfl | rfl | rfl <;>
    · go_enter Try.func17, Try.ntmps17
      go_wp2
      go_ret
      exact ⟨rfl, rfl⟩
  · have HR := hid (show narK k = false from decide_eq_false h)
    have e1 : (k == 18) = false := by simp; omega
    have e2 : (k == 19) = false := by simp; omega
    have e3 : (k == 22) = false := by simp; omega
    have e4 : (k == 26) = false := by simp; omega
    clear h
    go_enter Try.func17, Try.ntmps17
    go_wp2
    go_ret
    exact ⟨by rw [HR.out]; rfl, rfl⟩

def digB (c : Int) : Bool := decide (48 ≤ c ∧ c ≤ 57)
theorem narDigit (c : Int) (w : World) : Calls Try.prog 19 #[.int .i64 c] w fun e w' => e = .returned (.bool (digB c)) ∧ w = w' := by
  by_cases h1 : 48 ≤ c
  · by_cases h2 : c ≤ 57
    · have HR := hid (show digB c = true from decide_eq_true ⟨h1, h2⟩)
      go_enter Try.func19, Try.ntmps19
      go_wp2
      go_ret
      exact ⟨by rw [HR.out]; rfl, rfl⟩
    · have HR := hid (show digB c = false from decide_eq_false (by omega))
      go_enter Try.func19, Try.ntmps19
      go_wp2
      go_ret
      exact ⟨by rw [HR.out]; rfl, rfl⟩
  · have HR := hid (show digB c = false from decide_eq_false (by omega))
    go_enter Try.func19, Try.ntmps19
    go_wp2
    go_ret
    exact ⟨by rw [HR.out]; rfl, rfl⟩

def letB (c : Int) : Bool := decide ((65 ≤ c ∧ c ≤ 90) ∨ (97 ≤ c ∧ c ≤ 122))
theorem narLetter (c : Int) (w : World) : Calls Try.prog 20 #[.int .i64 c] w fun e w' => e = .returned (.bool (letB c)) ∧ w = w' := by
  by_cases g1 : c < 65
  · have HR := hid (show letB c = false from decide_eq_false (by omega))
    go_enter Try.func20, Try.ntmps20
    go_wp2
    go_ret
    exact ⟨by rw [HR.out]; rfl, rfl⟩
  by_cases g4 : c ≤ 90
  · have HR := hid (show letB c = true from decide_eq_true (by omega))
    go_enter Try.func20, Try.ntmps20
    go_wp2
    go_ret
    exact ⟨by rw [HR.out]; rfl, rfl⟩
  by_cases g7 : c < 97
  · have HR := hid (show letB c = false from decide_eq_false (by omega))
    go_enter Try.func20, Try.ntmps20
    go_wp2
    go_ret
    exact ⟨by rw [HR.out]; rfl, rfl⟩
  by_cases g10 : c ≤ 122
  · have HR := hid (show letB c = true from decide_eq_true (by omega))
    go_enter Try.func20, Try.ntmps20
    go_wp2
    go_ret
    exact ⟨by rw [HR.out]; rfl, rfl⟩
  · have HR := hid (show letB c = false from decide_eq_false (by omega))
    go_enter Try.func20, Try.ntmps20
    go_wp2
    go_ret
    exact ⟨by rw [HR.out]; rfl, rfl⟩

def sigB (c : Int) : Bool := decide (c = 32 ∨ c = 39 ∨ c = 40 ∨ c = 41 ∨ c = 43 ∨ c = 44 ∨ c = 45 ∨ c = 46 ∨ c = 47 ∨ c = 58 ∨ c = 61 ∨ c = 63)
set_option maxHeartbeats 2000000 in
theorem narSign (c : Int) (w : World) : Calls Try.prog 21 #[.int .i64 c] w fun e w' => e = .returned (.bool (sigB c)) ∧ w = w' := by
  by_cases h : c = 32 ∨ c = 39 ∨ c = 40 ∨ c = 41 ∨ c = 43 ∨ c = 44 ∨ c = 45 ∨ c = 46 ∨ c = 47 ∨ c = 58 ∨ c = 61 ∨ c = 63
  · rcases h with rfl | rfl | rfl | rfl | rfl | rfl | rfl | rfl | rfl | rfl | rfl | rfl <;>
    · go_enter Try.func21, Try.ntmps21
      go_wp2
      go_ret
      exact ⟨rfl, rfl⟩
  · have HR := hid (show sigB c = false from decide_eq_false h)
    have e0 : (c == 32) = false := by simp; omega
    have e1 : (c == 39) = false := by simp; omega
    have e2 : (c == 40) = false := by simp; omega
    have e3 : (c == 41) = false := by simp; omega
    have e4 : (c == 43) = false := by simp; omega
    have e5 : (c == 44) = false := by simp; omega
    have e6 : (c == 45) = false := by simp; omega
    have e7 : (c == 46) = false := by simp; omega
    have e8 : (c == 47) = false := by simp; omega
    have e9 : (c == 58) = false := by simp; omega
    have e10 : (c == 61) = false := by simp; omega
    have e11 : (c == 63) = false := by simp; omega
    clear h
    go_enter Try.func21, Try.ntmps21
    go_wp2
    go_ret
    exact ⟨by rw [HR.out]; rfl, rfl⟩

theorem narP_eq (c : Int) : narP c = (letB c || digB c || sigB c) := by
  unfold narP letB digB sigB
  rw [← Bool.decide_or, ← Bool.decide_or]
  apply decide_eq_decide.2
  omega

set_option maxHeartbeats 2000000 in
theorem narHas : NHasOk := by
  intro k c w hc
  have hcb : -9223372036854775808 ≤ c ∧ c ≤ 9223372036854775807 := of_decide_eq_true hc
  have HC := hid hc
  clear hc
  by_cases k18 : k = 18
  · subst k18
    have HB : narB 18 c = (digB c || decide (c = 32)) := by
      unfold narB digB
      rw [if_pos rfl, ← Bool.decide_or]
    cases hd : digB c with
    | true =>
      have HR := hid (show narB 18 c = true by rw [HB, hd]; rfl)
      have HD := hid hd
      clear hd HB
      go_enter Try.func12, Try.ntmps12
      go_wp2_with (go_at_call 19; refine (narDigit c _).mono ?_; rw [HD.out]; rintro e w1 ⟨rfl, rfl⟩)
      go_ret
      exact ⟨by rw [HR.out]; rfl, Below.refl _ _⟩
    | false =>
      by_cases h32 : c = 32
      · have HR := hid (show narB 18 c = true by rw [HB, hd, decide_eq_true h32]; rfl)
        have HD := hid hd
        have e1 : (c == 32) = true := by simpa using h32
        clear hd HB h32
        go_enter Try.func12, Try.ntmps12
        go_wp2_with (go_at_call 19; refine (narDigit c _).mono ?_; rw [HD.out]; rintro e w1 ⟨rfl, rfl⟩)
        go_ret
        exact ⟨by rw [HR.out]; rfl, Below.refl _ _⟩
      · have HR := hid (show narB 18 c = false by rw [HB, hd, decide_eq_false h32]; rfl)
        have HD := hid hd
        have e1 : (c == 32) = false := by simpa using h32
        clear hd HB h32
        go_enter Try.func12, Try.ntmps12
        go_wp2_with (go_at_call 19; refine (narDigit c _).mono ?_; rw [HD.out]; rintro e w1 ⟨rfl, rfl⟩)
        go_ret
        exact ⟨by rw [HR.out]; rfl, Below.refl _ _⟩
  by_cases k19 : k = 19
  · subst k19
    have HB : narB 19 c = (letB c || digB c || sigB c) := by
      rw [← narP_eq]
      rfl
    cases hl : letB c with
    | true =>
      have HR := hid (show narB 19 c = true by rw [HB, hl]; rfl)
      have HL := hid hl
      clear hl HB
      go_enter Try.func12, Try.ntmps12
      go_wp2_with (go_at_call 20; refine (narLetter c _).mono ?_; rw [HL.out]; rintro e w1 ⟨rfl, rfl⟩)
      go_ret
      exact ⟨by rw [HR.out]; rfl, Below.refl _ _⟩
    | false =>
      cases hd : digB c with
      | true =>
        have HR := hid (show narB 19 c = true by rw [HB, hl, hd]; rfl)
        have HL := hid hl
        have HD := hid hd
        clear hl hd HB
        go_enter Try.func12, Try.ntmps12
        go_wp2_with (first | (go_at_call 20; refine (narLetter c _).mono ?_; rw [HL.out]; rintro e w1 ⟨rfl, rfl⟩) | (go_at_call 19; refine (narDigit c _).mono ?_; rw [HD.out]; rintro e w1 ⟨rfl, rfl⟩))
        go_ret
        exact ⟨by rw [HR.out]; rfl, Below.refl _ _⟩
      | false =>
        have HR := hid (show narB 19 c = sigB c by rw [HB, hl, hd]; rfl)
        have HL := hid hl
        have HD := hid hd
        clear hl hd HB
        go_enter Try.func12, Try.ntmps12
        go_wp2_with (first | (go_at_call 20; refine (narLetter c _).mono ?_; rw [HL.out]; rintro e w1 ⟨rfl, rfl⟩) | (go_at_call 19; refine (narDigit c _).mono ?_; rw [HD.out]; rintro e w1 ⟨rfl, rfl⟩) | (go_at_call 21; refine (narSign c _).mono ?_; rintro e w1 ⟨rfl, rfl⟩))
        go_ret
        exact ⟨by rw [HR.out]; rfl, Below.refl _ _⟩
  by_cases k22 : k = 22
  · subst k22
    by_cases g1 : 0 ≤ c
    · by_cases g2 : c ≤ 127
      · have HR := hid (show narB 22 c = true from decide_eq_true ⟨g1, g2⟩)
        go_enter Try.func12, Try.ntmps12
        go_wp2
        go_ret
        exact ⟨by rw [HR.out]; rfl, Below.refl _ _⟩
      · have HR := hid (show narB 22 c = false from decide_eq_false (by omega))
        go_enter Try.func12, Try.ntmps12
        go_wp2
        go_ret
        exact ⟨by rw [HR.out]; rfl, Below.refl _ _⟩
    · have HR := hid (show narB 22 c = false from decide_eq_false (by omega))
      go_enter Try.func12, Try.ntmps12
      go_wp2
      go_ret
      exact ⟨by rw [HR.out]; rfl, Below.refl _ _⟩
  by_cases k26 : k = 26
  · subst k26
    by_cases g1 : 32 ≤ c
    · by_cases g2 : c ≤ 126
      · have HR := hid (show narB 26 c = true from decide_eq_true ⟨g1, g2⟩)
        go_enter Try.func12, Try.ntmps12
        go_wp2
        go_ret
        exact ⟨by rw [HR.out]; rfl, Below.refl _ _⟩
      · have HR := hid (show narB 26 c = false from decide_eq_false (by omega))
        go_enter Try.func12, Try.ntmps12
        go_wp2
        go_ret
        exact ⟨by rw [HR.out]; rfl, Below.refl _ _⟩
    · have HR := hid (show narB 26 c = false from decide_eq_false (by omega))
      go_enter Try.func12, Try.ntmps12
      go_wp2
      go_ret
      exact ⟨by rw [HR.out]; rfl, Below.refl _ _⟩
  have HR := hid (narB_none (kind := k) (c := c) (decide_eq_false (by omega)))
  have e1 : (k == 18) = false := by simpa using k18
  have e2 : (k == 19) = false := by simpa using k19
  have e3 : (k == 22) = false := by simpa using k22
  have e4 : (k == 26) = false := by simpa using k26
  go_enter Try.func12, Try.ntmps12
  go_wp2
  go_ret
  exact ⟨by rw [HR.out]; rfl, Below.refl _ _⟩
end Go.Proofs.Ytelpbjiohkeobaa
