/- Contract of package oid's reader of a decimal number: parseNumber answers the number that a text spells, or that there is none, and changes nothing. -/
import Derived.Test.YtihbgpgiladfkaaDoorStrs
import Derived.Test.YtihbgpgiladfkaaDoorKeep
namespace Go.Proofs.YtihbgpgiladfkaaDoor
open Go.RowKit

def pairP (t : Int × Bool) : Value := .tuple #[.int .i64 t.1, .bool t.2]
theorem sx_toList (s : ByteArray) : s.toList = s.data.toList := by simp [Lib.toList_data]
section
variable {xs : List Int} {k : Nat} {n x : Int} {z : Bool}
theorem dig_step (h : numD false false 0 xs = numD (decide (k ≠ 0)) z n (xs.drop k)) (hz : z = true → xs.drop k = []) (hx : x = xs.getD k 0) (hk : k < xs.length) :
    numD false false 0 xs = numD (decide (k ≠ 0)) false n (x :: xs.drop (k + 1)) := by
  have hz' : z = false := by
    cases z
    · rfl
    · have := hz rfl
      rw [List.drop_eq_nil_iff] at this
      omega
  rw [h, hz', drop_getD hx hk]
theorem dig_bad (h : Hid (numD false false 0 xs = numD (decide (k ≠ 0)) false n (x :: xs.drop (k + 1)))) (hb : x < 48 ∨ 57 < x ∨ maxN < 10 * n + (x - 48)) : numP xs = (0, false) := by
  unfold numP
  rw [h.out, numD, if_pos (by rcases hb with h | h | h <;> simp [h])]
theorem dig_on (h : Hid (numD false false 0 xs = numD (decide (k ≠ 0)) false n (x :: xs.drop (k + 1)))) (h1 : 48 ≤ x) (h2 : x ≤ 57) (h3 : 10 * n + (x - 48) ≤ maxN) :
    Hid (numD false false 0 xs = numD (decide (k + 1 ≠ 0)) (decide (k = 0) && decide (x = 48)) (10 * n + (x - 48)) (xs.drop (k + 1))) := by
  show _ = _
  rw [h.out, numD, if_neg (by simp; omega)]
  simp
theorem dig_end (h : Hid (numD false false 0 xs = numD (decide (k ≠ 0)) z n (xs.drop k))) (hk : xs.length ≤ k) (h0 : 0 < xs.length) : numP xs = (n, true) := by
  unfold numP
  rw [h.out, List.drop_eq_nil_of_le hk, numD, if_pos (by simp; omega)]
theorem dig_nil : numP [] = (0, false) := rfl
theorem dig_zero (h : xs.getD 0 0 = 48) (hl : 1 < xs.length) : numP xs = (0, false) := by
  match xs, h, hl with
  | a :: b :: r, h, _ =>
    have ha : a = 48 := h
    subst ha
    unfold numP
    rw [numD, if_neg (by simp [maxN]), numD, if_pos (by simp)]
end

/-- What the loop has read of xs up to k. -/
def Digs (xs : List Int) (k : Nat) (n : Int) : Prop := ∃ z, numD false false 0 xs = numD (decide (k ≠ 0)) z n (xs.drop k) ∧ (z = true → xs.drop k = [])

theorem oidParseNum (s : ByteArray) (w : World) (hl : s.size ≤ 1000000) :
    Calls Tryd.prog 26 #[.string s] w fun e w' => e = .returned (pairP (numP (sx s))) ∧ w = w' := by
  have hlen := sx_len s
  have hu := sx_u8 s
  have get : ∀ i (h : i < s.size), ((s[i]'h).toNat : Int) = (sx s).getD i 0 := fun i h => (sx_get s i h).symm
  have hlist : (sx s) = i8 s.toList := by rw [sx_toList]; rfl
  rcases Nat.eq_zero_or_pos s.size with h0 | h0
  · have he : sx s = [] := List.eq_nil_of_length_eq_zero (by omega)
    have h1 : s.toList = [] := by
      rw [he] at hlist
      cases hs : s.toList with
      | nil => rfl
      | cons a r => rw [hs] at hlist; cases hlist
    rw [he]
    clear hlist get hu he hlen
    go_enter Tryd.func26, Tryd.ntmps26
    go_wp2
    go_ret2
    exact ⟨rfl, rfl⟩
  have h1 : ¬ s.toList = [] := by
    intro hs
    rw [hs] at hlist
    rw [hlist] at hlen
    simp [i8] at hlen
    omega
  have h2 : s.toList.isEmpty = false := by cases hs : s.toList with
    | nil => exact absurd hs h1
    | cons a r => rfl
  obtain ⟨x0, hx0⟩ : ∃ x, x = (sx s).getD 0 0 := ⟨_, rfl⟩
  have d0 := get 0 h0
  rw [← hx0] at d0
  have b0 := hu.get 0
  rw [← hx0] at b0
  by_cases hbad : x0 = 48 ∧ 1 < s.size
  · have hr := hid (dig_zero (xs := sx s) (by rw [← hx0]; exact hbad.1) (by omega))
    have h3 : (s.toList == [48]) = false := by
      refine Bool.eq_false_iff.2 fun hh => ?_
      have : s.toList = [48] := by simpa using hh
      rw [this] at hlist
      rw [hlist] at hlen
      simp [i8] at hlen
      omega
    obtain ⟨rfl, hs1⟩ := hbad
    clear hlist get hu hlen hx0 b0
    go_enter Tryd.func26, Tryd.ntmps26
    go_wp2
    go_ret2
    rw [hr.out]
    exact ⟨rfl, rfl⟩
  have hz : x0 = 48 → s.size = 1 := fun h => by omega
  have h3 : ((x0 == 48) && !(s.toList == [48])) = false := by
    by_cases hx : x0 = 48
    · have hs := hz hx
      have : (s.toList == [48]) = true := by
        cases hs' : s.toList with
        | nil => exact absurd hs' h1
        | cons a r =>
          rw [hs'] at hlist
          have hr : r = [] := by
            rw [hlist] at hlen
            simp [i8] at hlen
            exact List.eq_nil_of_length_eq_zero (by omega)
          rw [hr] at hlist ⊢
          rw [hlist] at hx0
          have ha : (a.toNat : Int) = 48 := by rw [← hx, hx0]; rfl
          have : a = 48 := by apply UInt8.toNat_inj.1; exact_mod_cast ha
          rw [this]
          rfl
      simp [this]
    · simp [hx]
  have HG := hid get
  have HU := hid hu
  have HX := hid hx0
  have HZ := hid hz
  have HL := hid hlen
  clear hlist get hu hbad hlen hx0 hz
  go_enter Tryd.func26, Tryd.ntmps26
  go_wp2
  · have a1 : x0 = 48 := by assumption
    have a2 : (!s.toList == [48]) = true := by assumption
    exfalso
    rw [a1, a2] at h3
    cases h3
  all_goals
    go_loop [2, 19] (fun nv iv => ∃ (k : Nat) (n : Int), k ≤ s.size ∧ iv = .int .i64 k ∧ nv = .int .i64 n ∧ 0 ≤ n ∧ n ≤ 9223372036854775807 ∧ Hid (Digs (sx s) k n)) (fun _ iv => s.size - (intOf iv).toNat)
    case atStart => exact ⟨0, 0, by omega, rfl, rfl, by omega, by omega, false, by simp, fun h => by cases h⟩
    case round =>
      obtain ⟨k, n, hk, rfl, rfl, n0, n1, hd⟩ := hrel
      by_cases hlt : k < s.size
      · obtain ⟨x, hx⟩ : ∃ x, x = (sx s).getD k 0 := ⟨_, rfl⟩
        have dk := HG.out k hlt
        rw [← hx] at dk
        have bk := HU.out.get k
        rw [← hx] at bk
        obtain ⟨bk0, bk1⟩ := bk
        obtain ⟨z, hs, hzz⟩ := hd.out
        have hst := hid (dig_step hs hzz hx (by rw [HL.out]; exact hlt))
        have HXk := hid hx
        clear hx hs hzz
        by_cases hb : x < 48 ∨ 57 < x ∨ maxN < 10 * n + (x - 48)
        · have hr := hid (dig_bad hst hb)
          unfold maxN at hb
          have HB := hid hb
          clear hb
          go_wp2
          all_goals first
            | (go_ret2; rw [hr.out]; exact ⟨rfl, rfl⟩)
            | (have hb := HB.out; exfalso; omega)
        · have HB := hid hb
          unfold maxN at hb
          have c1 : 48 ≤ x := by omega
          have c2 : x ≤ 57 := by omega
          have c3 : 10 * n + (x - 48) ≤ 9223372036854775807 := by omega
          have hr := dig_on hst c1 c2 c3
          have hz2 : Hid ((decide (k = 0) && decide (x = 48)) = true → (sx s).drop (k + 1) = []) := fun hh => by
            simp at hh
            obtain ⟨rfl, hx48⟩ := hh
            have := HZ.out (by rw [HX.out, ← HXk.out]; exact hx48)
            exact List.drop_eq_nil_of_le (by rw [HL.out]; omega)
          clear hb
          go_wp2
          first
            | (refine ⟨⟨_, _, _, _, _, ⟨k + 1, by omega, by go_num, 10 * n + (x - 48), rfl, by omega, by omega, _, hr.out, hz2.out⟩, rfl, rfl, rfl, rfl, rfl⟩, ?_⟩; simp [intOf]; omega)
            | (go_round
               case rel => exact ⟨k + 1, 10 * n + (x - 48), by omega, by go_num, rfl, by omega, by omega, _, hr.out, hz2.out⟩
               case measure => simp [intOf]; omega)
      · go_wp2
        go_ret2
        obtain ⟨z, hs, -⟩ := hd.out
        rw [dig_end (hid hs) (by rw [HL.out]; omega) (by rw [HL.out]; omega)]
        exact ⟨rfl, rfl⟩
end Go.Proofs.YtihbgpgiladfkaaDoor
