/- Contracts of the readers of a long tag and of a length: each answers what the plain function says and changes nothing. -/
import Derived.Test.YtgjjncoelbhpeaaTlvSpec
import Derived.Test.YtgjjncoelbhpeaaKeep
namespace Go.Proofs.Ytgjjncoelbhpeaa
open Go.RowKit

def tri (t : Int × Int × Int) : Value := .tuple #[.int .i64 t.1, .int .i64 t.2.1, .int .i64 t.2.2]

def lift3 (k : Nat) (r : Int × Int × Int) : Int × Int × Int := if r.2.2 = 0 then (r.1, r.2.1 + k, 0) else (0, 0, r.2.2)
theorem rdTag_zero : ∀ (xs : List Int) (f : Bool) (t : Int), rdTag f t xs = lift3 0 (rdTag f t xs)
  | [], _, _ => by simp [rdTag, lift3]
  | x :: r, f, t => by
    rw [rdTag]
    repeat' split
    all_goals simp [lift3, *]

theorem drop_getD {xs : List Int} {k : Nat} {x : Int} (hx : x = xs.getD k 0) (hk : k < xs.length) : xs.drop k = x :: xs.drop (k + 1) := by
  rw [List.drop_eq_getElem_cons hk, hx, List.getD_eq_getElem?_getD, List.getElem?_eq_getElem hk]
  rfl
section
variable {xs : List Int} {k : Nat} {t x : Int}
theorem tag_step (h : rdTag true 0 xs = lift3 k (rdTag (decide (k = 0)) t (xs.drop k))) (hx : x = xs.getD k 0) (hk : k < xs.length) :
    rdTag true 0 xs = lift3 k (rdTag (decide (k = 0)) t (x :: xs.drop (k + 1))) := by rw [h, drop_getD hx hk]
theorem tag_bad (h : Hid (rdTag true 0 xs = lift3 k (rdTag (decide (k = 0)) t (x :: xs.drop (k + 1))))) (hb : (k = 0 ∧ x = 128) ∨ 268435455 < t * 128 + x % 128) : rdTag true 0 xs = (0, 0, 3) := by
  rw [h.out, rdTag]
  rcases hb with ⟨rfl, rfl⟩ | hb
  · simp [lift3]
  · by_cases h1 : decide (k = 0) = true ∧ x = 128
    · rw [if_pos h1]; simp [lift3]
    · rw [if_neg h1, if_pos hb]; simp [lift3]
theorem tag_on (h : Hid (rdTag true 0 xs = lift3 k (rdTag (decide (k = 0)) t (x :: xs.drop (k + 1))))) (h1 : t * 128 + x % 128 ≤ 268435455) (h2 : 128 ≤ x) (h3 : ¬ k = 0 ∨ ¬ x = 128) :
    Hid (rdTag true 0 xs = lift3 (k + 1) (rdTag (decide (k + 1 = 0)) (t * 128 + x % 128) (xs.drop (k + 1)))) := by
  show _ = _
  rw [h.out, rdTag, if_neg (by simp; omega), if_neg (by omega), if_pos h2]
  simp only [Nat.add_eq_zero_iff, Nat.one_ne_zero, and_false, decide_false]
  unfold lift3
  split <;> simp_all
  omega
theorem tag_small (h : Hid (rdTag true 0 xs = lift3 k (rdTag (decide (k = 0)) t (x :: xs.drop (k + 1))))) (h0 : 0 ≤ x) (_h1 : t * 128 + x % 128 ≤ 268435455) (h2 : x < 128) (h3 : t * 128 + x % 128 < 31) :
    rdTag true 0 xs = (0, 0, 3) := by
  rw [h.out, rdTag, if_neg (by simp; omega), if_neg (by omega), if_neg (by omega), if_pos (by omega)]
  simp [lift3]
theorem tag_end (h : Hid (rdTag true 0 xs = lift3 k (rdTag (decide (k = 0)) t (x :: xs.drop (k + 1))))) (h0 : 0 ≤ x) (h1 : t * 128 + x % 128 ≤ 268435455) (h2 : x < 128) (h3 : 31 ≤ t * 128 + x % 128) :
    rdTag true 0 xs = (t * 128 + x, 1 + (k : Int), 0) := by
  rw [h.out, rdTag, if_neg (by simp; omega), if_neg (by omega), if_neg (by omega), if_neg (by omega)]
  simp [lift3]
end

theorem readTag (v : Value) (xs : List Int) (w : World) (h : Sl .u8 w v xs) (hu : U8 xs) :
    Calls Try.prog 29 #[v] w fun e w' => e = .returned (tri (rdTag true 0 xs)) ∧ w = w' := by
  have m := h.len
  obtain ⟨a, cap, rfl, q, -, h⟩ := h
  rcases h with rfl | ⟨b, o, rfl, -, c⟩
  · have hx : xs = [] := List.eq_nil_of_length_eq_zero (by omega)
    subst hx
    clear q m
    simp only [List.length_nil]
    go_enter Try.func29, Try.ntmps29
    go_wp2
    go_loop [2, 9] (fun t i => i = .int .i64 0 ∧ t = .int .i64 0) (fun _ _ => 0)
    case atStart => exact ⟨rfl, rfl⟩
    case round =>
      obtain ⟨rfl, rfl⟩ := hrel
      go_wp2
      go_ret3
      exact ⟨rfl, rfl⟩
  · clear q
    have C := hid c
    clear c
    obtain ⟨len, hlen⟩ : ∃ len, len = xs.length := ⟨_, rfl⟩
    rw [← hlen] at C m ⊢
    have HL := hid hlen
    clear hlen
    go_enter Try.func29, Try.ntmps29
    go_wp2
    go_loop [2, 9] (fun tv i => ∃ (k : Nat) (t : Int), k ≤ len ∧ i = .int .i64 k ∧ tv = .int .i64 t ∧ 0 ≤ t ∧ t ≤ 268435455 ∧ Hid (rdTag true 0 xs = lift3 k (rdTag (decide (k = 0)) t (xs.drop k)))) (fun _ i => len - (intOf i).toNat)
    case atStart => exact ⟨0, 0, by omega, rfl, rfl, by omega, by omega, rdTag_zero xs true 0⟩
    case round =>
      obtain ⟨k, t, hk, rfl, rfl, ht0, ht1, hs⟩ := hrel
      by_cases hlt : k < len
      · obtain ⟨x, hx⟩ : ∃ x, x = xs.getD k 0 := ⟨_, rfl⟩
        have d1 := C.out k hlt
        have hb := hu.get k
        rw [← hx] at d1 hb
        obtain ⟨hb0, hb1⟩ := hb
        have HX := hid hx
        clear hx
        have q1 := and_127 x hb0 hb1
        have q2 := and_128 x hb0 hb1
        have q3 : bits .or .i64 (t * 128) (x % 128) = t * 128 + x % 128 := or_i64_7 t _ ht0 (by omega) (by omega) (by omega)
        have hst : Hid _ := hid (tag_step hs.out HX.out (by rw [← HL.out]; exact hlt))
        go_wp2
        · have h1 : (x == 128) = true := by assumption
          have hr := tag_bad hst (.inl ⟨by assumption, by simpa using h1⟩)
          go_ret3
          rw [hr]
          exact ⟨rfl, rfl⟩
        · have hr := tag_bad hst (.inr (by assumption))
          go_ret3
          rw [hr]
          exact ⟨rfl, rfl⟩
        · have h1 : (x == 128) = false := by assumption
          have hr := tag_on hst (by assumption) (by assumption) (.inr (by simpa using h1))
          go_round
          case rel => exact ⟨1, _, by omega, rfl, rfl, by omega, by omega, by subst_vars; exact hr⟩
          case measure => simp [intOf]; omega
        · have h1 : (x == 128) = false := by assumption
          have hr := tag_small hst hb0 (by assumption) (by omega) (by omega)
          go_ret3
          rw [hr]
          exact ⟨rfl, rfl⟩
        · have hr := tag_end hst hb0 (by assumption) (by omega) (by omega)
          go_ret3
          rw [hr]
          refine ⟨?_, rfl⟩
          have hk0 : k = 0 := by assumption
          rw [hk0]
          simp [tri]
          omega
        · have hr := tag_bad hst (.inr (by assumption))
          go_ret3
          rw [hr]
          exact ⟨rfl, rfl⟩
        · have hr := tag_on hst (by assumption) (by assumption) (.inl (by assumption))
          go_round
          case rel => exact ⟨k + 1, _, by omega, by go_num, rfl, by omega, by omega, hr⟩
          case measure => simp [intOf]; omega
        · have hr := tag_small hst hb0 (by assumption) (by omega) (by omega)
          go_ret3
          rw [hr]
          exact ⟨rfl, rfl⟩
        · have hr := tag_end hst hb0 (by assumption) (by omega) (by omega)
          go_ret3
          rw [hr]
          refine ⟨?_, rfl⟩
          simp [tri]
          omega
      · go_wp2
        go_ret3
        have hr : rdTag true 0 xs = (0, 0, 2) := by
          rw [hs.out, List.drop_eq_nil_of_le (by rw [← HL.out]; omega)]
          simp [rdTag, lift3]
        rw [hr]
        exact ⟨rfl, rfl⟩
end Go.Proofs.Ytgjjncoelbhpeaa
