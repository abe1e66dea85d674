/- Contract of package oid's reader of a number: readNumber answers the number with which bytes begin and its size, or that there is none, and changes nothing. -/
import Derived.Test.YtihbgpgiladfkaaDoorOidSpec
import Derived.Test.YtihbgpgiladfkaaDoorKeep
namespace Go.Proofs.YtihbgpgiladfkaaDoor
open Go.RowKit

def trib (t : Int × Int × Bool) : Value := .tuple #[.int .i64 t.1, .int .i64 t.2.1, .bool t.2.2]
theorem or_i64_56 (t b : Int) (ht : 0 ≤ t) (hb : 0 ≤ b) (hn : b < 128) (hs : t ≤ 72057594037927935) : bits .or .i64 (t * 128) b = t * 128 + b := or_i64 7 t b ht hb hn (by omega)
theorem and_128' : ∀ x : Int, 0 ≤ x → x ≤ 255 → (bits .and .u8 x 128 == 0) = decide (x < 128) := all_u8 (by decide +kernel)
section
variable {xs : List Int} {k : Nat} {n x : Int}
theorem num_step (h : rdN 0 0 xs = rdN k n (xs.drop k)) (hx : x = xs.getD k 0) (hk : k < xs.length) : rdN 0 0 xs = rdN k n (x :: xs.drop (k + 1)) := by rw [h, drop_getD hx hk]
theorem num_bad (h : Hid (rdN 0 0 xs = rdN k n (x :: xs.drop (k + 1)))) (hb : (k = 0 ∧ x = 128) ∨ 72057594037927935 < n) : rdT xs = (0, 0, false) := by
  unfold rdT
  rw [h.out, rdN, if_pos hb]
theorem num_on (h : Hid (rdN 0 0 xs = rdN k n (x :: xs.drop (k + 1)))) (hb : ¬ (k = 0 ∧ x = 128)) (hn : ¬ 72057594037927935 < n) (h2 : 128 ≤ x) (h3 : x ≤ 255) : Hid (rdN 0 0 xs = rdN (k + 1) (n * 128 + x % 128) (xs.drop (k + 1))) := by
  show _ = _
  rw [h.out, rdN, if_neg (by omega), if_pos h2, show x % 128 = x - 128 by omega]
theorem num_end (h : Hid (rdN 0 0 xs = rdN k n (x :: xs.drop (k + 1)))) (_hb : ¬ (k = 0 ∧ x = 128)) (hn : ¬ 72057594037927935 < n) (h1 : 0 ≤ x) (h2 : x < 128) : rdT xs = (n * 128 + x % 128, (k : Int) + 1, true) := by
  unfold rdT
  rw [h.out, rdN, if_neg (by omega), if_neg (by omega), show x % 128 = x by omega]
  rfl
theorem num_short (h : Hid (rdN 0 0 xs = rdN k n (xs.drop k))) (hk : xs.length ≤ k) : rdT xs = (0, 0, false) := by
  unfold rdT
  rw [h.out, List.drop_eq_nil_of_le hk, rdN]
end

theorem oidNumber (v : Value) (xs : List Int) (w : World) (h : Sl .u8 w v xs) (hu : U8 xs) :
    Calls Tryd.prog 24 #[v] w fun e w' => e = .returned (trib (rdT xs)) ∧ w = w' := by
  have m := h.len
  obtain ⟨a, cap, rfl, q, -, h⟩ := h
  have C := hid h
  clear h
  obtain ⟨len, hlen⟩ : ∃ len, len = xs.length := ⟨_, rfl⟩
  rw [← hlen] at C m q ⊢
  have HL := hid hlen
  have HQ := hid q
  clear hlen q
  go_enter Tryd.func24, Tryd.ntmps24
  go_wp2
  go_loop [2, 9] (fun tv i => ∃ (k : Nat) (n : Int), k ≤ len ∧ i = .int .i64 k ∧ tv = .int .i64 n ∧ 0 ≤ n ∧ n ≤ 9223372036854775807 ∧ Hid (rdN 0 0 xs = rdN k n (xs.drop k))) (fun _ i => len - (intOf i).toNat)
  case atStart => exact ⟨0, 0, by omega, rfl, rfl, by omega, by omega, rfl⟩
  case round =>
    obtain ⟨k, n, hk, rfl, rfl, n0, n1, hs⟩ := hrel
    by_cases hlt : k < len
    · rcases C.out with hc | ⟨b, o, rfl, -, c⟩
      · have := HQ.out; omega
      obtain ⟨x, hx⟩ : ∃ x, x = xs.getD k 0 := ⟨_, rfl⟩
      have d1 := c k hlt
      have hb := hu.get k
      rw [← hx] at d1 hb
      obtain ⟨hb0, hb1⟩ := hb
      have C2 := hid c
      clear c
      have hst := hid (num_step hs.out hx (by rw [← HL.out]; exact hlt))
      clear hx
      have q1 := and_127 x hb0 hb1
      have q2 := and_128' x hb0 hb1
      by_cases hbig : 72057594037927935 < n
      · have hr := hid (num_bad hst (.inr hbig))
        go_wp2
        all_goals go_ret3
        all_goals rw [hr.out]
        all_goals exact ⟨rfl, rfl⟩
      · have q3 : bits .or .i64 (n * 128) (x % 128) = n * 128 + x % 128 := or_i64_56 n _ n0 (by omega) (by omega) (by omega)
        by_cases hb : k = 0 ∧ x = 128
        · have hr := hid (num_bad hst (.inl hb))
          have HB := hid hb
          clear hb
          go_wp2
          all_goals first
            | (go_ret3; rw [hr.out]; exact ⟨rfl, rfl⟩)
            | (have h9 := HB.out; exfalso; omega)
        · have HB := hid hb
          clear hb
          by_cases hsm : x < 128
          · have hr := hid (num_end hst HB.out hbig hb0 hsm)
            go_wp2
            all_goals first
              | (go_ret3; rw [hr.out]; exact ⟨by simp_all [trib], rfl⟩)
              | (exfalso; apply HB.out; constructor <;> simp_all; done)
          · have hr := num_on hst HB.out hbig (by omega) hb1
            go_wp2
            all_goals try (exfalso; apply HB.out; constructor <;> simp_all; done)
            · go_round
              case rel => exact ⟨k + 1, _, by omega, by subst_vars; rfl, rfl, by omega, by omega, hr⟩
              case measure => simp [intOf]; omega
            · go_round
              case rel => exact ⟨k + 1, _, by omega, by go_num, rfl, by omega, by omega, hr⟩
              case measure => simp [intOf]; omega
    · go_wp2
      go_ret3
      rw [num_short hs (by rw [← HL.out]; omega)]
      exact ⟨rfl, rfl⟩
end Go.Proofs.YtihbgpgiladfkaaDoor
