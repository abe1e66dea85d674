/- Contracts of package oid's checks: whether two numbers may begin an identifier, whether a list is one. They change nothing. -/
import Derived.Test.YtihbgpgiladfkaaDoorOidSpec
import Derived.Test.YtihbgpgiladfkaaDoorKeepInts
import Derived.BigQuiet
namespace Go.Proofs.YtihbgpgiladfkaaDoor
open Go.RowKit

def mayB (a b : Int) : Bool := if a < 2 then decide (b < 40) else decide (a = 2 ∧ b ≤ maxN - 80)

theorem mayB_iff {a b : Int} : mayB a b = true ↔ (a < 2 ∧ b < 40) ∨ (a = 2 ∧ b ≤ maxN - 80) := by
  unfold mayB
  split <;> simp <;> omega

theorem oidMay (a b : Int) (w : World) : Calls Tryd.prog 28 #[.int .i64 a, .int .i64 b] w fun e w' => e = .returned (.bool (mayB a b)) ∧ w = w' := by
  go_enter Tryd.func28, Tryd.ntmps28
  go_wp2
  all_goals go_ret
  all_goals refine ⟨ret_bool ?_, rfl⟩
  all_goals simp_all [mayB, maxN]
  all_goals first | omega | (intros; omega) | skip

/-- All of them are integers of the machine's. -/
def I64 (xs : List Int) : Prop := ∀ x ∈ xs, -9223372036854775808 ≤ x ∧ x ≤ 9223372036854775807
theorem I64.get {xs : List Int} (h : I64 xs) (i : Nat) : -9223372036854775808 ≤ xs.getD i 0 ∧ xs.getD i 0 ≤ 9223372036854775807 := by
  rw [List.getD_eq_getElem?_getD]
  rcases Nat.lt_or_ge i xs.length with hi | hi
  · rw [List.getElem?_eq_getElem hi]; exact h _ (List.getElem_mem hi)
  · rw [List.getElem?_eq_none hi]; exact ⟨by decide, by decide⟩

def chk (xs : List Int) : Int := if oidOk xs = true then 0 else 8
theorem chk_short {xs : List Int} (h : xs.length < 2) : chk xs = 8 := by
  match xs, h with
  | [], _ => rfl
  | [_], _ => rfl
theorem chk_ok {xs : List Int} (h : oidOk xs = true) : chk xs = 0 := by simp [chk, h]
theorem chk_bad {xs : List Int} (h : oidOk xs = false) : chk xs = 8 := by simp [chk, h]
theorem chk_long {xs : List Int} (h : 40 < xs.length) : chk xs = 8 := by
  match xs, h with
  | a :: b :: r, h =>
    refine chk_bad (Bool.eq_false_iff.2 fun hh => ?_)
    have := ((oidOk_iff a b r).1 hh).1.1
    simp at h; omega
theorem chk_begin {xs : List Int} (h : mayB (xs.getD 0 0) (xs.getD 1 0) = false) : chk xs = 8 := by
  match xs, h with
  | [], _ => rfl
  | [_], _ => rfl
  | a :: b :: r, h =>
    refine chk_bad (Bool.eq_false_iff.2 fun hh => ?_)
    obtain ⟨⟨h1, h2, h3, h4, h5, h6⟩, _⟩ := (oidOk_iff a b r).1 hh
    have h' : mayB a b = false := h
    unfold mayB at h'
    split at h' <;> simp at h' <;> omega
theorem chk_neg {xs : List Int} {k : Nat} (hk : k < xs.length) (h : xs.getD k 0 < 0) : chk xs = 8 := by
  match xs, hk with
  | [_], _ => rfl
  | a :: b :: r, hk =>
    refine chk_bad (Bool.eq_false_iff.2 fun hh => ?_)
    obtain ⟨⟨h1, h2, h3, h4, h5, h6⟩, h7⟩ := (oidOk_iff a b r).1 hh
    match k, hk, h with
    | 0, _, h => simp at h; omega
    | 1, _, h => simp at h; omega
    | k + 2, hk, h =>
      have := h7 ((a :: b :: r).getD (k + 2) 0) (by
        rw [List.getD_eq_getElem?_getD, List.getElem?_eq_getElem hk]
        simp)
      omega
theorem chk_good {xs : List Int} (hi : I64 xs) (h2 : 2 ≤ xs.length) (h40 : xs.length ≤ 40) (hb : mayB (xs.getD 0 0) (xs.getD 1 0) = true) (hn : ∀ i, i < xs.length → 0 ≤ xs.getD i 0) : chk xs = 0 := by
  match xs, h2 with
  | a :: b :: r, _ =>
    unfold chk
    rw [if_pos]
    have a0 := hn 0 (by simp)
    have b0 := hn 1 (by simp)
    have hb' : mayB a b = true := hb
    have e0 : (a :: b :: r).getD 0 0 = a := rfl
    have e1 : (a :: b :: r).getD 1 0 = b := rfl
    rw [e0] at a0
    rw [e1] at b0
    have ib := hi b (by simp)
    simp at h40
    refine (oidOk_iff a b r).2 ⟨?_, fun x hx => ?_⟩
    · have hb2 := mayB_iff.1 hb'
      unfold maxN at hb2 ⊢
      clear hn e0 e1 hi hb hb'
      omega
    · obtain ⟨j, hj, rfl⟩ := List.getElem_of_mem hx
      have := hn (j + 2) (by simp; omega)
      have e : (a :: b :: r).getD (j + 2) 0 = r[j] := by simp [List.getD_eq_getElem?_getD, hj]
      rw [e] at this
      exact ⟨this, (hi _ (List.mem_cons_of_mem _ (List.mem_cons_of_mem _ hx))).2⟩

theorem oidCheck (v : Value) (xs : List Int) (w : World) (h : Sl .i64 w v xs) (hi : I64 xs) :
    Calls Tryd.prog 16 #[v] w fun e w' => e = .returned (.int .i64 (chk xs)) ∧ ∃ n, w' = w.drewN n := by
  have m := h.len
  obtain ⟨a, cap, rfl, q, -, h⟩ := h
  by_cases hs : xs.length < 2
  · have hr := hid (chk_short hs)
    clear h q
    have HM := hid m
    generalize xs.length = len at hs m ⊢
    have g1 : decide ((len : Int) < 2) = true := by simp; omega
    go_enter Tryd.func16, Tryd.ntmps16
    go_wp2
    go_quiet (fail)
    go_wp2
    go_ret
    rw [hr.out]
    exact ⟨rfl, _, rfl⟩
  by_cases hl : 40 < xs.length
  · have hr := hid (chk_long hl)
    clear h q
    have HM := hid m
    generalize xs.length = len at hs hl m ⊢
    have g1 : decide ((len : Int) < 2) = false := by simp; omega
    have g2 : decide (40 < (len : Int)) = true := by simp; omega
    go_enter Tryd.func16, Tryd.ntmps16
    go_wp2
    go_quiet (fail)
    go_wp2
    go_ret
    rw [hr.out]
    exact ⟨rfl, _, rfl⟩
  rcases h with rfl | ⟨bb, o, rfl, -, c⟩
  · omega
  clear q
  have C := hid c
  clear c
  obtain ⟨len, hlen⟩ : ∃ len, len = xs.length := ⟨_, rfl⟩
  rw [← hlen] at C m hs hl ⊢
  have HL := hid hlen
  clear hlen
  have d0 := C.out 0 (by omega)
  have d1 := C.out 1 (by omega)
  simp only [Nat.add_zero] at d0
  obtain ⟨x0, hx0⟩ : ∃ x, x = xs.getD 0 0 := ⟨_, rfl⟩
  obtain ⟨x1, hx1⟩ : ∃ x, x = xs.getD 1 0 := ⟨_, rfl⟩
  rw [← hx0] at d0
  rw [← hx1] at d1
  have HX := hid hx0
  have HY := hid hx1
  clear hx0 hx1
  have g1 : decide ((len : Int) < 2) = false := by simp; omega
  have g2 : decide (40 < (len : Int)) = false := by simp; omega
  have g3 : (0 : Int) < (len : Int) := by omega
  have g4 : (1 : Int) < (len : Int) := by omega
  go_enter Tryd.func16, Tryd.ntmps16
  go_wp2
  go_quiet (first | (go_at_call 28; exact quiet_same0 (oidMay _ _ _)))
  go_wp2
  · go_ret
    have hb : mayB x0 x1 = false := by simp_all
    rw [HX.out, HY.out] at hb
    rw [chk_begin hb]
    exact ⟨rfl, _, rfl⟩
  · have hb : mayB x0 x1 = true := by simp_all
    rw [HX.out, HY.out] at hb
    have HB := hid hb
    clear hb
    go_wp2
    go_loop [25] (fun i => ∃ k : Nat, k ≤ len ∧ i = .int .i64 k ∧ Hid (∀ i, i < k → 0 ≤ xs.getD i 0)) (fun i => len - (intOf i).toNat)
    case atStart => exact ⟨0, by omega, rfl, fun i hi => absurd hi (by omega)⟩
    case round =>
      obtain ⟨k, hk, rfl, hall⟩ := hrel
      by_cases hlt : k < len
      · obtain ⟨x, hx⟩ : ∃ x, x = xs.getD k 0 := ⟨_, rfl⟩
        have dk := C.out k hlt
        rw [← hx] at dk
        have HZ := hid hx
        clear hx
        go_wp2
        · have hn : x < 0 := by assumption
          go_ret
          rw [chk_neg (k := k) (by rw [← HL.out]; exact hlt) (by rw [← HZ.out]; exact hn)]
          exact ⟨rfl, _, rfl⟩
        · have hn : ¬ x < 0 := by omega
          go_round
          case rel =>
            refine ⟨k + 1, by omega, by go_num, fun i hi => ?_⟩
            rcases Nat.lt_or_ge i k with h | h
            · exact hall.out i h
            · obtain rfl : i = k := by omega
              rw [← HZ.out]; omega
          case measure => simp [intOf]; omega
      · go_wp2
        go_ret
        rw [chk_good hi (by rw [← HL.out]; omega) (by rw [← HL.out]; omega) HB.out (fun i hi' => hall.out i (by rw [← HL.out] at hi'; omega))]
        exact ⟨rfl, _, rfl⟩
end Go.Proofs.YtihbgpgiladfkaaDoor
