/- Contracts of package utf8's small functions: length, begin, group. No conditions. -/
import Derived.Test.YtajncbohgialaaaU8Math
namespace Go.Proofs.Ytajncbohgialaaa
open Go.RowKit

theorem and_63i (c : Int) (h : 0 ≤ c) (hs : c < 9223372036854775808) : bits .and .i64 c 63 = c % 64 := by
  obtain ⟨n, rfl⟩ := Int.eq_ofNat_of_zero_le h
  show IntKind.i64.wrap ((BitVec.ofInt 64 (n : Int) &&& BitVec.ofInt 64 (63 : Int)).toNat : Int) = _
  rw [BitVec.toNat_and, i64_nat n (by omega), show (BitVec.ofInt 64 (63 : Int)).toNat = 2 ^ 6 - 1 by decide, Nat.and_two_pow_sub_one_eq_mod, IntKind.wrap_i64]
  omega
theorem or_128 : ∀ x : Int, 0 ≤ x → x ≤ 255 → x < 64 → bits .or .u8 128 x = 128 + x := all_u8 (by decide +kernel)
theorem or_192 : ∀ x : Int, 0 ≤ x → x ≤ 255 → x < 32 → bits .or .u8 192 x = 192 + x := all_u8 (by decide +kernel)
theorem or_224 : ∀ x : Int, 0 ≤ x → x ≤ 255 → x < 16 → bits .or .u8 224 x = 224 + x := all_u8 (by decide +kernel)
theorem or_240 : ∀ x : Int, 0 ≤ x → x ≤ 255 → x < 8 → bits .or .u8 240 x = 240 + x := all_u8 (by decide +kernel)
theorem not_63 : ∀ x : Int, 0 ≤ x → x ≤ 255 → bits .andNot .u8 x 63 = x / 64 * 64 := all_u8 (by decide +kernel)
theorem and_63 : ∀ x : Int, 0 ≤ x → x ≤ 255 → bits .and .u8 x 63 = x % 64 := all_u8 (by decide +kernel)

theorem utfLength (c : Int) (w : World) : Calls Try.prog 23 #[.int .i64 c] w fun e w' => e = .returned (.int .i64 ((u8enc c).length : Nat)) ∧ w = w' := by
  by_cases h1 : c < 128
  · have HR := hid (show (u8enc c).length = 1 by simp [u8enc, h1])
    go_enter Try.func23, Try.ntmps23
    go_wp2
    go_ret
    exact ⟨by rw [HR.out]; rfl, rfl⟩
  by_cases h2 : c < 2048
  · have HR := hid (show (u8enc c).length = 2 by simp [u8enc, h1, h2])
    go_enter Try.func23, Try.ntmps23
    go_wp2
    go_ret
    exact ⟨by rw [HR.out]; rfl, rfl⟩
  by_cases h3 : c < 65536
  · have HR := hid (show (u8enc c).length = 3 by simp [u8enc, h1, h2, h3])
    go_enter Try.func23, Try.ntmps23
    go_wp2
    go_ret
    exact ⟨by rw [HR.out]; rfl, rfl⟩
  · have HR := hid (show (u8enc c).length = 4 by simp [u8enc, h1, h2, h3])
    go_enter Try.func23, Try.ntmps23
    go_wp2
    go_ret
    exact ⟨by rw [HR.out]; rfl, rfl⟩

theorem lead_2 {x : Int} (h0 : 192 ≤ x) (h1 : x < 224) : lead x = (2, x - 192) := by unfold lead; rw [if_pos ⟨h0, h1⟩]
theorem lead_3 {x : Int} (h0 : 224 ≤ x) (h1 : x < 240) : lead x = (3, x - 224) := by unfold lead; rw [if_neg (by omega), if_pos ⟨h0, h1⟩]
theorem lead_4 {x : Int} (h0 : 240 ≤ x) (h1 : x < 248) : lead x = (4, x - 240) := by unfold lead; rw [if_neg (by omega), if_neg (by omega), if_pos ⟨h0, h1⟩]
theorem lead_0 {x : Int} (h : x < 192 ∨ 248 ≤ x) : lead x = (0, x) := by unfold lead; rw [if_neg (by omega), if_neg (by omega), if_neg (by omega)]
/-- what the first byte says: how many bytes, and its bits -/
def beginS (x : Int) : Nat × Int := if x < 128 then (1, x) else if (lead x).1 = 0 then (0, 0) else lead x
theorem utfBegin (x : Int) (w : World) (h0 : 0 ≤ x) (h1 : x ≤ 255) : Calls Try.prog 22 #[.int .u8 x] w fun e w' => e = .returned (.tuple #[.int .i64 (beginS x).2, .int .i64 ((beginS x).1 : Nat)]) ∧ w = w' := by
  by_cases k1 : x < 128
  · have HR := hid (show beginS x = (1, x) by simp [beginS, k1])
    go_enter Try.func22, Try.ntmps22
    go_wp2
    go_ret2
    exact ⟨by rw [HR.out]; rfl, rfl⟩
  by_cases k2 : x < 192
  · have HR := hid (show beginS x = (0, 0) by unfold beginS; rw [if_neg k1, lead_0 (by omega), if_pos rfl])
    go_enter Try.func22, Try.ntmps22
    go_wp2
    go_ret2
    exact ⟨by rw [HR.out]; rfl, rfl⟩
  by_cases k3 : x < 224
  · have HR := hid (show beginS x = (2, x - 192) by unfold beginS; rw [if_neg k1, lead_2 (by omega) k3, if_neg (by simp)])
    go_enter Try.func22, Try.ntmps22
    go_wp2
    go_ret2
    exact ⟨by rw [HR.out]; rfl, rfl⟩
  by_cases k4 : x < 240
  · have HR := hid (show beginS x = (3, x - 224) by unfold beginS; rw [if_neg k1, lead_3 (by omega) k4, if_neg (by simp)])
    go_enter Try.func22, Try.ntmps22
    go_wp2
    go_ret2
    exact ⟨by rw [HR.out]; rfl, rfl⟩
  by_cases k5 : x < 248
  · have HR := hid (show beginS x = (4, x - 240) by unfold beginS; rw [if_neg k1, lead_4 (by omega) k5, if_neg (by simp)])
    go_enter Try.func22, Try.ntmps22
    go_wp2
    go_ret2
    exact ⟨by rw [HR.out]; rfl, rfl⟩
  · have HR := hid (show beginS x = (0, 0) by unfold beginS; rw [if_neg k1, lead_0 (by omega), if_pos rfl])
    go_enter Try.func22, Try.ntmps22
    go_wp2
    go_ret2
    exact ⟨by rw [HR.out]; rfl, rfl⟩

theorem utfGroup0 (c : Int) (w : World) (h0 : 0 ≤ c) (h1 : c ≤ 1114111) : Calls Try.prog 26 #[.int .i64 c, .int .i64 0] w fun e w' => e = .returned (.int .u8 (128 + c % 64)) ∧ w = w' := by
  have e1 := and_63i c h0 (by omega)
  have e2 := or_128 (c % 64) (by omega) (by omega) (by omega)
  go_enter Try.func26, Try.ntmps26
  go_wp2
  go_ret
  exact ⟨rfl, rfl⟩
theorem utfGroup1 (c : Int) (w : World) (h0 : 0 ≤ c) (h1 : c ≤ 1114111) : Calls Try.prog 26 #[.int .i64 c, .int .i64 1] w fun e w' => e = .returned (.int .u8 (128 + c / 64 % 64)) ∧ w = w' := by
  have e1 := and_63i (c / 64) (by omega) (by omega)
  have e2 := or_128 (c / 64 % 64) (by omega) (by omega) (by omega)
  go_enter Try.func26, Try.ntmps26
  go_wp2
  go_ret
  exact ⟨rfl, rfl⟩
theorem utfGroup2 (c : Int) (w : World) (h0 : 0 ≤ c) (h1 : c ≤ 1114111) : Calls Try.prog 26 #[.int .i64 c, .int .i64 2] w fun e w' => e = .returned (.int .u8 (128 + c / 4096 % 64)) ∧ w = w' := by
  have e1 := and_63i (c / 4096) (by omega) (by omega)
  have e2 := or_128 (c / 4096 % 64) (by omega) (by omega) (by omega)
  go_enter Try.func26, Try.ntmps26
  go_wp2
  go_ret
  exact ⟨rfl, rfl⟩
end Go.Proofs.Ytajncbohgialaaa
