/- Several texts in one: Bits. -/
import Derived.Test.YtildhebaikeknaaGreatPk1
import Derived.Lib.BitFns
import Derived.Lib.Strings
import Derived.Lib.Slices
import Derived.Lib.Small
import Derived.Lib.Walk
/-! Bits -/
namespace Go.Proofs.YtildhebaikeknaaGreat
open Go.RowKit

theorem wrap64_small (x : Int) (h0 : 0 ≤ x) (h1 : x ≤ 9223372036854775807) : wrap64 x = x := by unfold wrap64; omega
theorem tab_size : Lib.len8tab.size = 256 := by decide +kernel
theorem tab_all : ∀ i : Fin 256, (Lib.len8tab[i.val]'(by rw [tab_size]; exact i.isLt)).toNat = Lib.bitLen i.val := by decide +kernel
theorem tab_get (n : Nat) (h : n < Lib.len8tab.size) : (Lib.len8tab[n]'h).toNat = Lib.bitLen n := tab_all ⟨n, by rw [tab_size] at h; exact h⟩

set_option maxHeartbeats 4000000 in
set_option maxRecDepth 100000 in
theorem bitsLen64 (x : Int) (w : World) (h0 : 0 ≤ x) (h1 : x ≤ 4294967295) :
    Calls Tryz.prog 93 #[.int .u64 x] w fun e w' => e = .returned (.int .i64 (Lib.bitLen x.toNat)) ∧ w = w' := by
  have hs : x < 4294967296 := by omega
  by_cases k1 : 65536 ≤ x
  · by_cases k2 : 256 ≤ x / 65536
    · have hb : x / 65536 / 256 < (Lib.len8tab.size : Int) := by rw [tab_size]; omega
      go_enter Tryz.func93, Tryz.ntmps93
      go_wp2
      go_ret
      refine ⟨congrArg Ending.returned (congrArg (Value.int IntKind.i64) ?_), rfl⟩
      have l := Lib.bitLen_le8' (x / 65536 / 256) (by omega) (by omega)
      have s := Lib.bitLen_shift24 x.toNat (by omega) (by omega)
      have e : (x / 65536 / 256).toNat = x.toNat / 16777216 := by omega
      simp only [tab_get]
      rw [e] at l ⊢
      rw [wrap64_small (Lib.bitLen _ : Int) (by omega) (by omega), wrap64_small _ (by omega) (by omega)]
      omega
    · have hb : x / 65536 < (Lib.len8tab.size : Int) := by rw [tab_size]; omega
      go_enter Tryz.func93, Tryz.ntmps93
      go_wp2
      go_ret
      refine ⟨congrArg Ending.returned (congrArg (Value.int IntKind.i64) ?_), rfl⟩
      have l := Lib.bitLen_le8' (x / 65536) (by omega) (by omega)
      have s := Lib.bitLen_shift16 x.toNat (by omega) (by omega)
      have e : (x / 65536).toNat = x.toNat / 65536 := by omega
      simp only [tab_get]
      rw [e] at l ⊢
      rw [wrap64_small (Lib.bitLen _ : Int) (by omega) (by omega), wrap64_small _ (by omega) (by omega)]
      omega
  · by_cases k2 : 256 ≤ x
    · have hb : x / 256 < (Lib.len8tab.size : Int) := by rw [tab_size]; omega
      go_enter Tryz.func93, Tryz.ntmps93
      go_wp2
      go_ret
      refine ⟨congrArg Ending.returned (congrArg (Value.int IntKind.i64) ?_), rfl⟩
      have l := Lib.bitLen_le8' (x / 256) (by omega) (by omega)
      have s := Lib.bitLen_shift8 x.toNat (by omega) (by omega)
      have e : (x / 256).toNat = x.toNat / 256 := by omega
      simp only [tab_get]
      rw [e] at l ⊢
      rw [wrap64_small (Lib.bitLen _ : Int) (by omega) (by omega), wrap64_small _ (by omega) (by omega)]
      omega
    · have hb : x < (Lib.len8tab.size : Int) := by rw [tab_size]; omega
      go_enter Tryz.func93, Tryz.ntmps93
      go_wp2
      go_ret
      refine ⟨congrArg Ending.returned (congrArg (Value.int IntKind.i64) ?_), rfl⟩
      have l := Lib.bitLen_le8' x (by omega) (by omega)
      simp only [tab_get]
      rw [wrap64_small (Lib.bitLen _ : Int) (by omega) (by omega), wrap64_small _ (by omega) (by omega)]

/-- the bounds that fix the number -/
theorem bitLen_fix (x : Nat) (hx : x < 4294967296) : x < 2 ^ Lib.bitLen x ∧ (x ≠ 0 → 2 ^ (Lib.bitLen x - 1) ≤ x) ∧ (x ≠ 0 → 1 ≤ Lib.bitLen x) ∧ Lib.bitLen x ≤ 32 := by
  have h64 : x < 2 ^ 32 := hx
  have key : ∀ (f y : Nat), y < 2 ^ f → y < 2 ^ Lib.bitLenAux f y ∧ (y ≠ 0 → 2 ^ (Lib.bitLenAux f y - 1) ≤ y ∧ 1 ≤ Lib.bitLenAux f y) := by
    intro f
    induction f with
    | zero => intro y hy; simp at hy; subst hy; simp [Lib.bitLenAux]
    | succ f ih =>
      intro y hy
      by_cases h0 : y = 0
      · subst h0; simp [Lib.bitLenAux]
      · have h2 : y / 2 < 2 ^ f := by rw [Nat.pow_succ] at hy; omega
        obtain ⟨i1, i2⟩ := ih (y / 2) h2
        simp only [Lib.bitLenAux, if_neg h0]
        refine ⟨by rw [Nat.add_comm 1, Nat.pow_succ]; omega, fun _ => ⟨?_, by omega⟩⟩
        rw [Nat.add_sub_cancel_left]
        by_cases h3 : y / 2 = 0
        · have : Lib.bitLenAux f (y / 2) = 0 := by rw [h3]; cases f <;> simp [Lib.bitLenAux]
          rw [this]; simp; omega
        · obtain ⟨i3, i4⟩ := i2 h3
          have e : 2 ^ Lib.bitLenAux f (y / 2) = 2 ^ (Lib.bitLenAux f (y / 2) - 1) * 2 := by rw [← Nat.pow_succ]; congr 1; omega
          omega
  obtain ⟨k1, k2⟩ := key 64 x (by omega)
  exact ⟨k1, fun h => (k2 h).1, fun h => (k2 h).2, Lib.bitLen_le x 32 (by omega) h64⟩

theorem bitsLen (x : Int) (w : World) (h0 : 0 ≤ x) (h1 : x ≤ 4294967295) :
    Calls Tryz.prog 78 #[.int .u64 x] w fun e w' => e = .returned (.int .i64 (Lib.bitLen x.toNat)) ∧ w = w' := by
  go_enter Tryz.func78, Tryz.ntmps78
  go_wp2_with (go_at_call 93; refine (bitsLen64 x _ h0 h1).mono ?_; rintro e w' ⟨rfl, rfl⟩)
  go_ret
  exact ⟨rfl, rfl⟩

end Go.Proofs.YtildhebaikeknaaGreat
