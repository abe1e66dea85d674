/- Several texts in one: Nar15a, Nar15b. -/
import Derived.Test.YtildhebaikeknaaGreatPk22
import Derived.BigQuiet
/-! Nar15a -/
namespace Go.Proofs.YtildhebaikeknaaGreat
open Go.RowKit

theorem narKind (k : Int) (w : World) : Calls Tryz.prog 45 #[.int .i64 k] w fun e w' => e = .returned (.bool (narK k)) ∧ w = w' := by
  by_cases h : k = 18 ∨ k = 19 ∨ k = 22 ∨ k = 26
  · rcases h with rfl | rfl | rfl | rfl <;>
    · go_enter Tryz.func45, Tryz.ntmps45
      go_wp2
      go_ret
      exact ⟨rfl, rfl⟩
  · have HR := hid (show narK k = false from decide_eq_false h)
    have e1 : (k == 18) = false := by simp; omega
    have e2 : (k == 19) = false := by simp; omega
    have e3 : (k == 22) = false := by simp; omega
    have e4 : (k == 26) = false := by simp; omega
    clear h
    go_enter Tryz.func45, Tryz.ntmps45
    go_wp2
    go_ret
    exact ⟨by rw [HR.out]; rfl, rfl⟩

def digB (c : Int) : Bool := decide (48 ≤ c ∧ c ≤ 57)
theorem narDigit (c : Int) (w : World) : Calls Tryz.prog 62 #[.int .i64 c] w fun e w' => e = .returned (.bool (digB c)) ∧ w = w' := by
  by_cases h1 : 48 ≤ c
  · by_cases h2 : c ≤ 57
    · have HR := hid (show digB c = true from decide_eq_true ⟨h1, h2⟩)
      go_enter Tryz.func62, Tryz.ntmps62
      go_wp2
      go_ret
      exact ⟨by rw [HR.out]; rfl, rfl⟩
    · have HR := hid (show digB c = false from decide_eq_false (by omega))
      go_enter Tryz.func62, Tryz.ntmps62
      go_wp2
      go_ret
      exact ⟨by rw [HR.out]; rfl, rfl⟩
  · have HR := hid (show digB c = false from decide_eq_false (by omega))
    go_enter Tryz.func62, Tryz.ntmps62
    go_wp2
    go_ret
    exact ⟨by rw [HR.out]; rfl, rfl⟩

def letN (c : Int) : Bool := decide ((65 ≤ c ∧ c ≤ 90) ∨ (97 ≤ c ∧ c ≤ 122))
theorem narLetter (c : Int) (w : World) : Calls Tryz.prog 63 #[.int .i64 c] w fun e w' => e = .returned (.bool (letN c)) ∧ w = w' := by
  by_cases g1 : c < 65
  · have HR := hid (show letN c = false from decide_eq_false (by omega))
    go_enter Tryz.func63, Tryz.ntmps63
    go_wp2
    go_ret
    exact ⟨by rw [HR.out]; rfl, rfl⟩
  by_cases g4 : c ≤ 90
  · have HR := hid (show letN c = true from decide_eq_true (by omega))
    go_enter Tryz.func63, Tryz.ntmps63
    go_wp2
    go_ret
    exact ⟨by rw [HR.out]; rfl, rfl⟩
  by_cases g7 : c < 97
  · have HR := hid (show letN c = false from decide_eq_false (by omega))
    go_enter Tryz.func63, Tryz.ntmps63
    go_wp2
    go_ret
    exact ⟨by rw [HR.out]; rfl, rfl⟩
  by_cases g10 : c ≤ 122
  · have HR := hid (show letN c = true from decide_eq_true (by omega))
    go_enter Tryz.func63, Tryz.ntmps63
    go_wp2
    go_ret
    exact ⟨by rw [HR.out]; rfl, rfl⟩
  · have HR := hid (show letN c = false from decide_eq_false (by omega))
    go_enter Tryz.func63, Tryz.ntmps63
    go_wp2
    go_ret
    exact ⟨by rw [HR.out]; rfl, rfl⟩

def sigB (c : Int) : Bool := decide (c = 32 ∨ c = 39 ∨ c = 40 ∨ c = 41 ∨ c = 43 ∨ c = 44 ∨ c = 45 ∨ c = 46 ∨ c = 47 ∨ c = 58 ∨ c = 61 ∨ c = 63)
set_option maxHeartbeats 2000000 in
theorem narSign (c : Int) (w : World) : Calls Tryz.prog 64 #[.int .i64 c] w fun e w' => e = .returned (.bool (sigB c)) ∧ w = w' := by
  by_cases h : c = 32 ∨ c = 39 ∨ c = 40 ∨ c = 41 ∨ c = 43 ∨ c = 44 ∨ c = 45 ∨ c = 46 ∨ c = 47 ∨ c = 58 ∨ c = 61 ∨ c = 63
  · rcases h with rfl | rfl | rfl | rfl | rfl | rfl | rfl | rfl | rfl | rfl | rfl | rfl <;>
    · go_enter Tryz.func64, Tryz.ntmps64
      go_wp2
      go_ret
      exact ⟨rfl, rfl⟩
  · have HR := hid (show sigB c = false from decide_eq_false h)
    have e0 : (c == 32) = false := by simp; omega
    have e1 : (c == 39) = false := by simp; omega
    have e2 : (c == 40) = false := by simp; omega
    have e3 : (c == 41) = false := by simp; omega
    have e4 : (c == 43) = false := by simp; omega
    have e5 : (c == 44) = false := by simp; omega
    have e6 : (c == 45) = false := by simp; omega
    have e7 : (c == 46) = false := by simp; omega
    have e8 : (c == 47) = false := by simp; omega
    have e9 : (c == 58) = false := by simp; omega
    have e10 : (c == 61) = false := by simp; omega
    have e11 : (c == 63) = false := by simp; omega
    clear h
    go_enter Tryz.func64, Tryz.ntmps64
    go_wp2
    go_ret
    exact ⟨by rw [HR.out]; rfl, rfl⟩

theorem narP_eq (c : Int) : narP c = (letN c || digB c || sigB c) := by
  unfold narP letN digB sigB
  rw [← Bool.decide_or, ← Bool.decide_or]
  apply decide_eq_decide.2
  omega

set_option maxHeartbeats 2000000 in
theorem narHas : NHasOk := by
  intro k c w hc
  have hcb : -9223372036854775808 ≤ c ∧ c ≤ 9223372036854775807 := of_decide_eq_true hc
  have HC := hid hc
  clear hc
  by_cases k18 : k = 18
  · subst k18
    have HB : narB 18 c = (digB c || decide (c = 32)) := by
      unfold narB digB
      rw [if_pos rfl, ← Bool.decide_or]
    cases hd : digB c with
    | true =>
      have HR := hid (show narB 18 c = true by rw [HB, hd]; rfl)
      have HD := hid hd
      clear hd HB
      go_enter Tryz.func46, Tryz.ntmps46
      go_wp2_with (go_at_call 62; refine (narDigit c _).mono ?_; rw [HD.out]; rintro e w1 ⟨rfl, rfl⟩)
      go_ret
      exact ⟨by rw [HR.out]; rfl, Below.refl _ _⟩
    | false =>
      by_cases h32 : c = 32
      · have HR := hid (show narB 18 c = true by rw [HB, hd, decide_eq_true h32]; rfl)
        have HD := hid hd
        have e1 : (c == 32) = true := by simpa using h32
        clear hd HB h32
        go_enter Tryz.func46, Tryz.ntmps46
        go_wp2_with (go_at_call 62; refine (narDigit c _).mono ?_; rw [HD.out]; rintro e w1 ⟨rfl, rfl⟩)
        go_ret
        exact ⟨by rw [HR.out]; rfl, Below.refl _ _⟩
      · have HR := hid (show narB 18 c = false by rw [HB, hd, decide_eq_false h32]; rfl)
        have HD := hid hd
        have e1 : (c == 32) = false := by simpa using h32
        clear hd HB h32
        go_enter Tryz.func46, Tryz.ntmps46
        go_wp2_with (go_at_call 62; refine (narDigit c _).mono ?_; rw [HD.out]; rintro e w1 ⟨rfl, rfl⟩)
        go_ret
        exact ⟨by rw [HR.out]; rfl, Below.refl _ _⟩
  by_cases k19 : k = 19
  · subst k19
    have HB : narB 19 c = (letN c || digB c || sigB c) := by
      rw [← narP_eq]
      rfl
    cases hl : letN c with
    | true =>
      have HR := hid (show narB 19 c = true by rw [HB, hl]; rfl)
      have HL := hid hl
      clear hl HB
      go_enter Tryz.func46, Tryz.ntmps46
      go_wp2_with (go_at_call 63; refine (narLetter c _).mono ?_; rw [HL.out]; rintro e w1 ⟨rfl, rfl⟩)
      go_ret
      exact ⟨by rw [HR.out]; rfl, Below.refl _ _⟩
    | false =>
      cases hd : digB c with
      | true =>
        have HR := hid (show narB 19 c = true by rw [HB, hl, hd]; rfl)
        have HL := hid hl
        have HD := hid hd
        clear hl hd HB
        go_enter Tryz.func46, Tryz.ntmps46
        go_wp2_with (first | (go_at_call 63; refine (narLetter c _).mono ?_; rw [HL.out]; rintro e w1 ⟨rfl, rfl⟩) | (go_at_call 62; refine (narDigit c _).mono ?_; rw [HD.out]; rintro e w1 ⟨rfl, rfl⟩))
        go_ret
        exact ⟨by rw [HR.out]; rfl, Below.refl _ _⟩
      | false =>
        have HR := hid (show narB 19 c = sigB c by rw [HB, hl, hd]; rfl)
        have HL := hid hl
        have HD := hid hd
        clear hl hd HB
        go_enter Tryz.func46, Tryz.ntmps46
        go_wp2_with (first | (go_at_call 63; refine (narLetter c _).mono ?_; rw [HL.out]; rintro e w1 ⟨rfl, rfl⟩) | (go_at_call 62; refine (narDigit c _).mono ?_; rw [HD.out]; rintro e w1 ⟨rfl, rfl⟩) | (go_at_call 64; refine (narSign c _).mono ?_; rintro e w1 ⟨rfl, rfl⟩))
        go_ret
        exact ⟨by rw [HR.out]; rfl, Below.refl _ _⟩
  by_cases k22 : k = 22
  · subst k22
    by_cases g1 : 0 ≤ c
    · by_cases g2 : c ≤ 127
      · have HR := hid (show narB 22 c = true from decide_eq_true ⟨g1, g2⟩)
        go_enter Tryz.func46, Tryz.ntmps46
        go_wp2
        go_ret
        exact ⟨by rw [HR.out]; rfl, Below.refl _ _⟩
      · have HR := hid (show narB 22 c = false from decide_eq_false (by omega))
        go_enter Tryz.func46, Tryz.ntmps46
        go_wp2
        go_ret
        exact ⟨by rw [HR.out]; rfl, Below.refl _ _⟩
    · have HR := hid (show narB 22 c = false from decide_eq_false (by omega))
      go_enter Tryz.func46, Tryz.ntmps46
      go_wp2
      go_ret
      exact ⟨by rw [HR.out]; rfl, Below.refl _ _⟩
  by_cases k26 : k = 26
  · subst k26
    by_cases g1 : 32 ≤ c
    · by_cases g2 : c ≤ 126
      · have HR := hid (show narB 26 c = true from decide_eq_true ⟨g1, g2⟩)
        go_enter Tryz.func46, Tryz.ntmps46
        go_wp2
        go_ret
        exact ⟨by rw [HR.out]; rfl, Below.refl _ _⟩
      · have HR := hid (show narB 26 c = false from decide_eq_false (by omega))
        go_enter Tryz.func46, Tryz.ntmps46
        go_wp2
        go_ret
        exact ⟨by rw [HR.out]; rfl, Below.refl _ _⟩
    · have HR := hid (show narB 26 c = false from decide_eq_false (by omega))
      go_enter Tryz.func46, Tryz.ntmps46
      go_wp2
      go_ret
      exact ⟨by rw [HR.out]; rfl, Below.refl _ _⟩
  have HR := hid (narB_none (kind := k) (c := c) (decide_eq_false (by omega)))
  have e1 : (k == 18) = false := by simpa using k18
  have e2 : (k == 19) = false := by simpa using k19
  have e3 : (k == 22) = false := by simpa using k22
  have e4 : (k == 26) = false := by simpa using k26
  go_enter Tryz.func46, Tryz.ntmps46
  go_wp2
  go_ret
  exact ⟨by rw [HR.out]; rfl, Below.refl _ _⟩
end Go.Proofs.YtildhebaikeknaaGreat

/-! Nar15b -/
namespace Go.Proofs.YtildhebaikeknaaGreat
open Go.RowKit

theorem all_at {s : List Int} (h : s.all inI = true) {j : Nat} (hj : j < s.length) : inI (s.getD j 0) = true := by
  rw [List.getD_eq_getElem?_getD, List.getElem?_eq_getElem hj]
  exact List.all_eq_true.1 h _ (List.getElem_mem hj)
theorem u8_at {s : List Int} (h : U8 s) {j : Nat} (hj : j < s.length) : 0 ≤ s.getD j 0 ∧ s.getD j 0 ≤ 255 := by
  rw [List.getD_eq_getElem?_getD, List.getElem?_eq_getElem hj]
  exact h _ (List.getElem_mem hj)

set_option maxRecDepth 10000 in
set_option maxHeartbeats 4000000 in
theorem narPutYes (k : Int) (hk : narK k = true) (v : Value) (s : List Int) (w : World) (hs : Sl .i64 w v s) (hi : s.all inI = true) (hl : s.length ≤ 100000) : Calls Tryz.prog 32 #[.int .i64 k, v] w fun e w' =>
    ∃ x, e = .returned (.tuple #[x, .int .i64 (outAt (nchk k s)), .int .i64 (outE 14 (nchk k s))]) ∧ Own .u8 5 w.heap.size w' x (outL (nchk k s)) ∧ Below w.heap.size w w' := by
  have HK := hid hk
  obtain ⟨a1, cap1, rfl, q1, -, h1⟩ := hs
  obtain ⟨n, hn⟩ : ∃ n, n = s.length := ⟨_, rfl⟩
  have HN := hid hn
  have H1 := hid h1
  have HI := hid hi
  rw [← hn] at q1 hl ⊢
  clear h1 hn hk hi
  go_enter Tryz.func32, Tryz.ntmps32
  go_wp2_with (go_at_call 45; refine (narKind k _).mono ?_; rw [HK.out]; rintro e w1 ⟨rfl, rfl⟩)
  go_loopw [4, 5, 6, 14] (fun bv rv ev iv wr => ∃ (j : Nat) (x : List Int), j ≤ n ∧ iv = .int .i64 j ∧ rv = .int .i64 0 ∧ ev = .int .i64 0 ∧ Hid (Own .u8 5 w.heap.size wr bv x) ∧ Hid (Below w.heap.size w wr) ∧ Hid (nchk k (s.take j) = .inl x) ∧ x.length ≤ j) (fun _ _ _ iv _ => n - (intOf iv).toNat)
  case atStart => exact ⟨0, [], by omega, rfl, rfl, rfl, Own.nil _ _ _ _, Below.refl _ _, by show nchk k (s.take 0) = _; rfl, by simp⟩
  case round =>
    obtain ⟨j, x, hj, rfl, rfl, rfl, hown, hbel, hput, hxl⟩ := hrel
    by_cases hlt : j < n
    · rcases H1.out with hcc | ⟨b1, o1, rfl, hb1, hc⟩
      · omega
      have hb1' := hb1 (by have := HN.out; omega)
      have d1 := (hbel.out.cell (p := ⟨b1, o1 + j, none⟩) hb1').trans (hc j (by have := HN.out; omega))
      obtain ⟨p1, p2⟩ := putG_part (by have := HN.out; omega) hput.out
      have HCI := hid (all_at HI.out (j := j) (by have := HN.out; omega))
      clear hc hb1 hb1'
      generalize s.getD j 0 = c at d1 p1 p2 HCI
      cases hsc : narB k c with
      | false =>
        have HSC := hid hsc
        have HP := hid (show nchk k s = .inr j from p1 hsc)
        clear p1 p2 hsc
        go_wp2_with (go_at_call 46; refine (narHas k c _ HCI.out).mono ?_; rw [HSC.out]; rintro e w1 ⟨rfl, hb1⟩; have HB1 := hid (hbel.out.trans (hb1.mono hbel.out.size)); clear hb1)
        go_ret3
        exact ⟨_, by rw [HP.out]; rfl, by rw [HP.out]; exact Own.nil .u8 5 _ _, HB1.out⟩
      | true =>
        have HSC := hid hsc
        have HP := hid (show nchk k (s.take (j + 1)) = .inl (x ++ [c]) from p2 hsc)
        obtain ⟨c0, c1⟩ := narB_u8 hsc
        have HX := hid (show (x ++ [c]).length = x.length + 1 by simp)
        clear p1 p2 hsc
        go_wp2_with (first
          | (go_at_call 46; refine (narHas k c _ HCI.out).mono ?_; rw [HSC.out]; rintro e w1 ⟨rfl, hb1⟩; have HB1 := hid (hbel.out.trans (hb1.mono hbel.out.size)); have HW1 := hid (hown.out.below hb1); clear hb1)
          | (at_builtin; go_loud (refine wpList_app _ rfl _ _ 42 rfl .u8 w.heap.size 5 1 Tryz.underlying42 Tryz.infoU8 _ x [c] rfl (HW1.out.alloc _) _ rfl (one_sl (by first | simp | rfl)) (by unfold maxLen; simp; omega) (by simp; omega) (by have := HB1.out.size; simp; omega) ?_); intro v5 w5 ho5 hg5 hb5 hn5; have HO5 := hid ho5; have HB5 := hid ((HB1.out.alloc HB1.out.size _).trans hb5); clear ho5 hg5 hb5 hn5))
        go_roundw
        case rel => exact ⟨j + 1, x ++ [c], by omega, by go_num, rfl, rfl, HO5.out, HB5.out, HP.out, by rw [HX.out]; omega⟩
        case measure => simp [intOf]; omega
    · obtain rfl : j = n := by omega
      have HP := hid (show nchk k s = .inl x by rw [← hput.out, HN.out, List.take_length])
      go_wp2
      go_ret3
      exact ⟨_, by rw [HP.out]; rfl, by rw [HP.out]; exact hown.out, hbel.out⟩

set_option maxHeartbeats 4000000 in
theorem narPutNo (k : Int) (hk : narK k = false) (v : Value) (s : List Int) (w : World) (hs : Sl .i64 w v s) : Calls Tryz.prog 32 #[.int .i64 k, v] w fun e w' =>
    e = .returned (.tuple #[.slice none 0 0, .int .i64 0, .int .i64 18]) ∧ w = w' := by
  obtain ⟨a1, cap1, rfl⟩ := hs.form
  have HK := hid hk
  clear hk
  go_enter Tryz.func32, Tryz.ntmps32
  go_wp2_with (go_at_call 45; refine (narKind k _).mono ?_; rw [HK.out]; rintro e w1 ⟨rfl, rfl⟩)
  go_ret3
  exact ⟨rfl, rfl⟩

theorem narPutOk : NPutOk := by
  intro k v s w hs hi hl
  unfold nput
  cases hk : narK k with
  | true => exact narPutYes k hk v s w hs hi hl
  | false => exact (narPutNo k hk v s w hs).mono fun _ _ ⟨h, hw⟩ => ⟨_, h, hw ▸ Own.nil .u8 5 _ _, hw ▸ Below.refl _ _⟩
end Go.Proofs.YtildhebaikeknaaGreat
