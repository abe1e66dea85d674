/- Contract of the reader of a length: it answers what the plain function says and changes nothing. -/
import Derived.Test.YtgjjncoelbhpeaaTlv1
namespace Go.Proofs.Ytgjjncoelbhpeaa
open Go.RowKit

def lfin (m : Nat) (r : Int × Int) : Int × Int × Int := if r.2 = 0 then (r.1, (m : Int) + 1, 0) else (0, 0, r.2)
def lbd (k : Nat) (t : Int) : Prop := 0 ≤ t ∧ t ≤ 4294967295 ∧ (k = 1 → t = 0) ∧ (k = 2 → t ≤ 255) ∧ (k = 3 → t ≤ 65535) ∧ (k = 4 → t ≤ 16777215)
section
variable {xs : List Int} {k m : Nat} {t x : Int}
theorem len_start (hx : xs ≠ []) (h0 : xs.getD 0 0 = 128 + (m : Int)) (h1 : 1 ≤ m) (h4 : m ≤ 4) : rdLen xs = lfin m (lenGo (decide (1 = 1)) (m + 1 - 1) 0 (xs.drop 1)) := by
  match xs, hx with
  | y :: r, _ =>
    have hy : y = 128 + (m : Int) := h0
    have e : (y - 128).toNat = m := by omega
    rw [rdLen, if_neg (by omega), if_neg (by omega), e]
    unfold lfin
    simp
    split <;> simp
    omega
theorem len_step (h : rdLen xs = lfin m (lenGo (decide (k = 1)) (m + 1 - k) t (xs.drop k))) (hx : x = xs.getD k 0) (hk : k < xs.length) (hm : k ≤ m) :
    rdLen xs = lfin m (lenGo (decide (k = 1)) (m - k + 1) t (x :: xs.drop (k + 1))) := by rw [h, drop_getD hx hk, show m + 1 - k = m - k + 1 by omega]
theorem len_zero (h : Hid (rdLen xs = lfin m (lenGo (decide (k = 1)) (m - k + 1) t (x :: xs.drop (k + 1))))) (h1 : k = 1) (h2 : x = 0) : rdLen xs = (0, 0, 4) := by
  rw [h.out, lenGo, if_pos (by simp [h1, h2])]; simp [lfin]
theorem len_on (h : Hid (rdLen xs = lfin m (lenGo (decide (k = 1)) (m - k + 1) t (x :: xs.drop (k + 1))))) (h1 : ¬ k = 1 ∨ ¬ x = 0) (h2 : 1 ≤ k) :
    Hid (rdLen xs = lfin m (lenGo (decide (k + 1 = 1)) (m + 1 - (k + 1)) (t * 256 + x) (xs.drop (k + 1)))) := by
  show _ = _
  have e : decide (k + 1 = 1) = false := by simp; omega
  rw [h.out, lenGo, if_neg (by simp; omega), e, show m + 1 - (k + 1) = m - k by omega]
theorem len_short (h : Hid (rdLen xs = lfin m (lenGo (decide (k = 1)) (m + 1 - k) t (xs.drop k)))) (h1 : k ≤ m) (h2 : xs.length ≤ k) : rdLen xs = (0, 0, 2) := by
  rw [h.out, List.drop_eq_nil_of_le h2, show m + 1 - k = m - k + 1 by omega, lenGo]; simp [lfin]
theorem len_end (h : Hid (rdLen xs = lfin m (lenGo (decide (k = 1)) (m + 1 - k) t (xs.drop k)))) (h1 : ¬ k ≤ m) : rdLen xs = if t > 2147483647 ∨ t < 128 then (0, 0, 4) else (t, (m : Int) + 1, 0) := by
  rw [h.out, show m + 1 - k = 0 by omega, lenGo]; unfold lfin; split <;> simp
end

theorem readLength (v : Value) (xs : List Int) (w : World) (h : Sl .u8 w v xs) (hu : U8 xs) :
    Calls Try.prog 30 #[v] w fun e w' => e = .returned (tri (rdLen xs)) ∧ w = w' := by
  have m := h.len
  obtain ⟨a, cap, rfl, q, -, h⟩ := h
  rcases Nat.eq_zero_or_pos xs.length with h0 | h0
  · have hx : xs = [] := List.eq_nil_of_length_eq_zero h0
    subst hx
    clear q m h h0
    simp only [List.length_nil]
    go_enter Try.func30, Try.ntmps30
    go_wp2
    go_ret3
    exact ⟨rfl, rfl⟩
  rcases h with rfl | ⟨b, o, rfl, -, c⟩
  · omega
  · clear q
    have C := hid c
    clear c
    obtain ⟨len, hlen⟩ : ∃ len, len = xs.length := ⟨_, rfl⟩
    rw [← hlen] at C m h0 ⊢
    have HL := hid hlen
    have hne : xs ≠ [] := by intro h; rw [h] at hlen; simp at hlen; omega
    have HNE := hid hne
    clear hlen hne
    obtain ⟨x, hx⟩ : ∃ x, x = xs.getD 0 0 := ⟨_, rfl⟩
    have d0 := C.out 0 h0
    have hb := hu.get 0
    rw [← hx] at d0 hb
    simp only [Nat.add_zero] at d0
    obtain ⟨hb0, hb1⟩ := hb
    have HX := hid hx
    clear hx
    have hn0 : ((len : Int) == 0) = false := by simp; omega
    have hn1 : (0 : Int) < (len : Int) := by omega
    by_cases hs : x < 128
    · go_enter Try.func30, Try.ntmps30
      go_wp2
      go_ret3
      have hr : rdLen xs = (x, 1, 0) := by
        match xs, HNE.out with
        | y :: r, _ =>
          have hy : x = y := HX.out
          rw [rdLen, if_pos (by omega), hy]
      rw [hr]
      exact ⟨rfl, rfl⟩
    · by_cases hs2 : x = 128 ∨ 132 < x
      · have ht : (x - 128 == 0) = true ∨ ((x - 128 == 0) = false ∧ 4 < x - 128) := by simp; omega
        have hr : rdLen xs = (0, 0, 4) := by
          match xs, HNE.out with
          | y :: r, _ =>
            have hy : x = y := HX.out
            rw [rdLen, if_neg (by omega), if_pos (by omega)]
        have HR := hid hr
        clear hr hs2
        rcases ht with ht | ⟨ht, ht2⟩
        all_goals
          go_enter Try.func30, Try.ntmps30
          go_wp2
          go_ret3
          rw [HR.out]
          exact ⟨rfl, rfl⟩
      · obtain ⟨m, hm⟩ : ∃ m : Nat, x = 128 + (m : Int) := ⟨(x - 128).toNat, by omega⟩
        have hm1 : 1 ≤ m := by omega
        have hm4 : m ≤ 4 := by omega
        have hst := hid (len_start (m := m) HNE.out (by rw [← HX.out]; exact hm) hm1 hm4)
        have e1 : x - 128 = m := by omega
        have HM := hid hm
        clear hm
        have e2 : ((m : Int) == 0) = false := by simp; omega
        clear hs2
        go_enter Try.func30, Try.ntmps30
        go_wp2
        go_loop [2, 6] (fun tv i => ∃ (k : Nat) (t : Int), 1 ≤ k ∧ k ≤ len ∧ k ≤ m + 1 ∧ i = .int .i64 k ∧ tv = .int .i64 t ∧ Hid (lbd k t) ∧ Hid (rdLen xs = lfin m (lenGo (decide (k = 1)) (m + 1 - k) t (xs.drop k)))) (fun _ i => len - (intOf i).toNat)
        case atStart => exact ⟨1, 0, by omega, by omega, by omega, rfl, rfl, by simp [Hid, lbd], hst⟩
        case round =>
          obtain ⟨k, t, hk1, hk2, hk3, rfl, rfl, hbd, hs⟩ := hrel
          by_cases hlt : k < len
          · obtain ⟨y, hy⟩ : ∃ y, y = xs.getD k 0 := ⟨_, rfl⟩
            have d1 := C.out k hlt
            have hb := hu.get k
            rw [← hy] at d1 hb
            obtain ⟨hy0, hy1⟩ := hb
            have HY := hid hy
            clear hy
            have t0 : 0 ≤ t := hbd.out.1
            have t1 : t ≤ 4294967295 := hbd.out.2.1
            have q3 : bits .or .i64 (t * 256) y = t * 256 + y := or_i64_8 t _ t0 (by omega) (by omega) (by omega)
            rcases Nat.lt_or_ge 1 k with h1k | h1k
            · have e3 : ((k : Int) == 1) = false := by simp; omega
              go_wp2
              · have hst := hid (len_step hs.out HY.out (by rw [← HL.out]; exact hlt) (by omega))
                have hr := len_on hst (.inl (by omega)) hk1
                go_round
                case rel => exact ⟨k + 1, _, by omega, by omega, by omega, by go_num, rfl, by obtain ⟨_, _, _, z2, z3, z4⟩ := hbd.out; refine ⟨by omega, ?_, ?_, ?_, ?_, ?_⟩ <;> omega, hr⟩
                case measure => simp [intOf]; omega
              all_goals first
                | (go_ret3; rw [len_end hs.out (by omega), if_pos (by omega)]; exact ⟨rfl, rfl⟩)
                | (go_ret3; rw [len_end hs.out (by omega), if_neg (by omega)]; refine ⟨?_, rfl⟩; simp [tri]; omega)
            · obtain rfl : k = 1 := by omega
              have z0 := hid (hbd.out.2.2.1 rfl)
              go_wp2
              · have hy0 : (y == 0) = true := by assumption
                have hst := hid (len_step hs.out HY.out (by rw [← HL.out]; exact hlt) (by omega))
                go_ret3
                rw [len_zero hst rfl (by simpa using hy0)]
                exact ⟨rfl, rfl⟩
              · have hy0 : (y == 0) = false := by assumption
                have hst := hid (len_step hs.out HY.out (by rw [← HL.out]; exact hlt) (by omega))
                have hr := len_on hst (.inr (by simpa using hy0)) hk1
                go_round
                case rel => exact ⟨2, _, by omega, by omega, by omega, rfl, rfl, by have z1 := z0.out; refine ⟨by omega, ?_, ?_, ?_, ?_, ?_⟩ <;> omega, hr⟩
                case measure => simp [intOf]; omega
          · obtain rfl : k = len := by omega
            go_wp2
            · go_ret3
              rw [len_short hs.out (by omega) (by rw [← HL.out]; omega)]
              exact ⟨rfl, rfl⟩
            all_goals first
              | (go_ret3; rw [len_end hs.out (by omega), if_pos (by omega)]; exact ⟨rfl, rfl⟩)
              | (go_ret3; rw [len_end hs.out (by omega), if_neg (by omega)]; refine ⟨?_, rfl⟩; simp [tri]; omega)
end Go.Proofs.Ytgjjncoelbhpeaa
