/- Contract of the helper that compares lists of integers: Ints answers whether two lists are equal and changes nothing. -/
import Derived.Test.YtelpbjiohkeobaaKeepG
namespace Go.Proofs.Ytelpbjiohkeobaa
open Go.RowKit

theorem keepInts (v1 v2 : Value) (xs ys : List Int) (w : World) (h1 : Sl .i64 w v1 xs) (h2 : Sl .i64 w v2 ys) :
    Calls Try.prog 15 #[v1, v2] w fun e w' => e = .returned (.bool (eqL xs ys)) ∧ ∃ n, w' = w.drewN n := by
  have m1 := h1.len
  have m2 := h2.len
  obtain ⟨a1, cap1, rfl, q1, -, h1⟩ := h1
  obtain ⟨a2, cap2, rfl, q2, -, h2⟩ := h2
  by_cases hne : xs.length = ys.length
  · rcases Nat.eq_zero_or_pos xs.length with h0 | h0
    · have hx : xs = [] := List.eq_nil_of_length_eq_zero h0
      have hy : ys = [] := List.eq_nil_of_length_eq_zero (by omega)
      subst hx hy
      clear h1 h2 hne h0
      simp only [List.length_nil]
      go_enter Try.func15, Try.ntmps15
      go_wp2
      go_loopw [5] (fun i wr => i = .int .i64 0 ∧ wr = w) (fun i _ => 0)
      case atStart => exact ⟨rfl, rfl⟩
      case round =>
        obtain ⟨rfl, rfl⟩ := hrel
        go_wp2
        go_ret
        exact ⟨rfl, 0, rfl⟩
    · rcases h1 with hc | ⟨b1, o1, rfl, hb1, c1⟩
      · omega
      rcases h2 with hc | ⟨b2, o2, rfl, hb2, c2⟩
      · omega
      rw [← hne] at c2 ⊢
      have HN := hid hne
      obtain ⟨len, hlen⟩ : ∃ len, len = xs.length := ⟨_, rfl⟩
      clear q1 q2
      rw [← hlen] at c1 c2 m1 h0 ⊢
      have HL := hid hlen
      clear hlen m2 hne
      have C1 := hid c1
      have C2 := hid c2
      clear c1 c2 hb1 hb2
      go_enter Try.func15, Try.ntmps15
      go_wp2
      go_loopw [5] (fun i wr => ∃ k n : Nat, k ≤ len ∧ i = .int .i64 k ∧ wr = w.drewN n ∧ Hid (∀ i, i < k → xs.getD i 0 = ys.getD i 0)) (fun i _ => len - (intOf i).toNat)
      case atStart => exact ⟨0, 0, by omega, rfl, rfl, fun i hi => absurd hi (by omega)⟩
      case round =>
        obtain ⟨k, n, hk, rfl, rfl, hall⟩ := hrel
        by_cases hlt : k < len
        · have d1 := C1.out k hlt
          have d2 := C2.out k hlt
          go_wp2
          go_quiet (fail)
          go_wp2
          · have ht : (xs[k]?.getD 0 != ys[k]?.getD 0) = true := by assumption
            go_ret
            refine ⟨ret_bool ?_, drewN_ex _ _ _⟩
            have : xs ≠ ys := by rintro rfl; simp at ht
            simp [eqL, this]
          · have ht : (xs[k]?.getD 0 != ys[k]?.getD 0) = false := by assumption
            go_roundw
            case rel =>
              refine ⟨k + 1, _, by omega, by go_num, rfl, fun i hi => ?_⟩
              rcases Nat.lt_or_ge i k with h | h
              · exact hall.out i h
              · obtain rfl : i = k := by omega
                simpa [List.getD_eq_getElem?_getD] using ht
            case measure => simp [intOf]; omega
        · go_wp2
          go_ret
          refine ⟨ret_bool ?_, n, rfl⟩
          exact (eqL_iff.2 (ext_getD HN.out fun i hi => hall.out i (by rw [← HL.out] at hi; omega))).symm
  · have hf : eqL xs ys = false := by
      have : xs ≠ ys := by rintro rfl; exact hne rfl
      simp [eqL, this]
    rw [hf]
    clear hf h1 h2 q1 q2
    have ht : ((xs.length : Int) != (ys.length : Int)) = true := by simp; omega
    clear hne
    generalize xs.length = l1 at ht m1 ⊢
    generalize ys.length = l2 at ht m2 ⊢
    go_enter Try.func15, Try.ntmps15
    go_wp2
    go_ret
    exact ⟨rfl, 0, rfl⟩

theorem Try.infoI64 : (Try.prog.info? 3).map (fun i => (i.zero, i.size, i.bytes)) = some (some (.int .i64 0), 1, 8) := by kernel_rfl

end Go.Proofs.Ytelpbjiohkeobaa
