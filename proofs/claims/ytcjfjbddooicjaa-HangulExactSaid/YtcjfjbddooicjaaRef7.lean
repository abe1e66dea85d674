/- Contracts of the document's Split and Join. -/
import Derived.Test.YtcjfjbddooicjaaHangSpec
import Derived.Test.YtcjfjbddooicjaaRef6a
import Derived.Test.YtcjfjbddooicjaaUcd3
namespace Go.Proofs.Ytcjfjbddooicjaa
open Go.RowKit

set_option maxHeartbeats 2000000 in
theorem refSplit7 (c : Int) (w : World) (h0 : -9223372036854775808 ≤ c) (h1 : c ≤ 9223372036854775807) : Calls Try.prog 10 #[.int .i64 c] w fun e w' => ∃ x, e = .returned x ∧ Sl .i64 w' x (splitS c) ∧ Below w.heap.size w w' := by
  by_cases hin : 44032 ≤ c ∧ c ≤ 55203
  · obtain ⟨n, rfl⟩ : ∃ n : Nat, c = 44032 + (n : Int) := ⟨(c - 44032).toNat, by omega⟩
    have hn : n ≤ 11171 := by omega
    have HR := hid (splitS_in hn)
    have e1 : (44032 + (n : Int)) - 44032 = (n : Int) := by omega
    have HB := hid (show inB (n : Int) 0 11171 = true from decide_eq_true ⟨by omega, by omega⟩)
    clear hin
    by_cases hm : n % 28 = 0
    · have hm2 : ¬ (0 : Int) < (n : Int) % 28 := by omega
      have HP := hid (show splitS (44032 + (n : Int)) = [4352 + (n : Int) / 588, 4449 + (n : Int) % 588 / 28] by rw [HR.out]; unfold partsN; rw [if_pos hm])
      clear hm
      go_enter Try.func10, Try.ntmps10
      go_wp2_with (go_at_call 14; refine (refIn6 (n : Int) 0 11171 _).mono ?_; rw [HB.out]; rintro e w1 ⟨rfl, rfl⟩)
      go_ret
      exact ⟨_, rfl, by rw [HP.out]; exact lit_sl rfl rfl rfl (by simp), by (repeat (first | exact Below.refl _ _ | exact below_drewN _ | refine Below.drew ?_ | refine Below.alloc ?_ (by simp) _ | refine Below.setCell ?_ (by simp) _ | refine below_drewN' ?_ _))⟩
    · have hm2 : (0 : Int) < (n : Int) % 28 := by omega
      have HP := hid (show splitS (44032 + (n : Int)) = [4352 + (n : Int) / 588, 4449 + (n : Int) % 588 / 28] ++ [4519 + (n : Int) % 28] by rw [HR.out]; unfold partsN; rw [if_neg hm]; rfl)
      clear hm
      go_enter Try.func10, Try.ntmps10
      go_wp2_with (first
        | (go_at_call 14; refine (refIn6 (n : Int) 0 11171 _).mono ?_; rw [HB.out]; rintro e w1 ⟨rfl, rfl⟩)
        | (at_builtin; go_loud (refine wpList_app _ rfl _ _ 25 rfl .i64 w.heap.size 3 8 Try.underlying25 Try.infoI64 _ [4352 + (n : Int) / 588, 4449 + (n : Int) % 588 / 28] [4519 + (n : Int) % 28] rfl (Own.below (lit_own rfl (Nat.le_refl _) rfl rfl (by simp)) (by (repeat (first | exact Below.refl _ _ | exact below_drewN _ | refine Below.drew ?_ | refine Below.alloc ?_ (by simp) _ | refine Below.setCell ?_ (by simp) _ | refine below_drewN' ?_ _)))) _ rfl (one_sl (by first | simp | rfl)) (by unfold maxLen; first | omega | (simp; omega) | simp) (by first | omega | (simp; omega) | simp) (by first | omega | (simp; omega) | simp) ?_); intro v5 w5 ho5 hg5 hb5 hn5; clear hn5 hg5))
      go_ret
      exact ⟨_, rfl, by rw [HP.out]; exact ho5.sl, Below.trans (show Below w.heap.size w _ from by (repeat (first | exact Below.refl _ _ | exact below_drewN _ | refine Below.drew ?_ | refine Below.alloc ?_ (by simp) _ | refine Below.setCell ?_ (by simp) _ | refine below_drewN' ?_ _))) hb5⟩
  · have HR := hid (splitS_out hin)
    have HB := hid (show inB (wrap64 (c - 44032)) 0 11171 = false from decide_eq_false (by unfold wrap64; omega))
    clear hin
    go_enter Try.func10, Try.ntmps10
    go_wp2_with (go_at_call 14; refine (refIn6 (wrap64 (c - 44032)) 0 11171 _).mono ?_; rw [HB.out]; rintro e w1 ⟨rfl, rfl⟩)
    go_ret
    exact ⟨_, rfl, by rw [HR.out]; exact sl_nil _ _, Below.refl _ _⟩

set_option maxHeartbeats 2000000 in
theorem refJoin7 (a b : Int) (w : World) (h0 : -9223372036854775808 ≤ a ∧ a ≤ 9223372036854775807) (h1 : -9223372036854775808 ≤ b ∧ b ≤ 9223372036854775807) : Calls Try.prog 7 #[.int .i64 a, .int .i64 b] w fun e w' => e = .returned (.tuple #[.int .i64 (joinS a b).1, .bool (joinS a b).2]) ∧ w = w' := by
  obtain ⟨R, hR⟩ : ∃ R, R = joinS a b := ⟨_, rfl⟩
  rw [← hR]
  by_cases hA : 4352 ≤ a ∧ a ≤ 4370
  · obtain ⟨a0, a1⟩ := hA
    have H1 := hid (show inB a 4352 4370 = true from decide_eq_true ⟨a0, a1⟩)
    by_cases hB : 4449 ≤ b ∧ b ≤ 4469
    · obtain ⟨b0, b1⟩ := hB
      have H2 := hid (show inB b 4449 4469 = true from decide_eq_true ⟨b0, b1⟩)
      have HR := hid (show R = (44032 + ((a - 4352) * 21 + b - 4449) * 28, true) by rw [hR]; unfold joinS; rw [if_pos ⟨a0, a1, b0, b1⟩]; congr 1; omega)
      clear hR
      go_enter Try.func7, Try.ntmps7
      go_wp2_with (first
        | (go_at_call 14; with_reducible refine (refIn6 a 4352 4370 _).mono ?_; rw [H1.out]; rintro e w1 ⟨rfl, rfl⟩)
        | (go_at_call 14; with_reducible refine (refIn6 b 4449 4469 _).mono ?_; rw [H2.out]; rintro e w1 ⟨rfl, rfl⟩))
      go_ret2
      exact ⟨by rw [HR.out]; rfl, rfl⟩
    · have H2 := hid (show inB b 4449 4469 = false from decide_eq_false hB)
      have H3 := hid (show inB a 44032 55203 = false from decide_eq_false (by omega))
      have HR := hid (show R = (0, false) by rw [hR]; unfold joinS; rw [if_neg (by omega), if_neg (by omega)])
      clear hR hB
      go_enter Try.func7, Try.ntmps7
      go_wp2_with (first
        | (go_at_call 14; with_reducible refine (refIn6 a 4352 4370 _).mono ?_; rw [H1.out]; rintro e w1 ⟨rfl, rfl⟩)
        | (go_at_call 14; with_reducible refine (refIn6 b 4449 4469 _).mono ?_; rw [H2.out]; rintro e w1 ⟨rfl, rfl⟩)
        | (go_at_call 14; with_reducible refine (refIn6 a 44032 55203 _).mono ?_; rw [H3.out]; rintro e w1 ⟨rfl, rfl⟩))
      go_ret2
      exact ⟨by rw [HR.out]; rfl, rfl⟩
  · have H1 := hid (show inB a 4352 4370 = false from decide_eq_false hA)
    by_cases hC : 44032 ≤ a ∧ a ≤ 55203
    · have H3 := hid (show inB a 44032 55203 = true from decide_eq_true hC)
      obtain ⟨n, rfl⟩ : ∃ n : Nat, a = 44032 + (n : Int) := ⟨(a - 44032).toNat, by omega⟩
      have hn : n ≤ 11171 := by omega
      have e1 : (44032 + (n : Int)) - 44032 = (n : Int) := by omega
      obtain ⟨z, hz⟩ : ∃ z, z = ((n : Int) % 28 == 0) := ⟨_, rfl⟩
      have HZ := hid hz
      replace hz := hz.symm
      clear hA hC
      cases z with
      | false =>
        have HR := hid (show R = (0, false) by rw [hR]; unfold joinS; rw [if_neg (by omega), if_neg (by have h := HZ.out.symm; rw [beq_eq_false_iff_ne] at h; omega)])
        clear hR
        go_enter Try.func7, Try.ntmps7
        go_wp2_with (first
          | (go_at_call 14; with_reducible refine (refIn6 (44032 + (n : Int)) 4352 4370 _).mono ?_; rw [H1.out]; rintro e w1 ⟨rfl, rfl⟩)
          | (go_at_call 14; with_reducible refine (refIn6 (44032 + (n : Int)) 44032 55203 _).mono ?_; rw [H3.out]; rintro e w1 ⟨rfl, rfl⟩))
        go_ret2
        exact ⟨by rw [HR.out]; rfl, rfl⟩
      | true =>
        by_cases hB : 4520 ≤ b ∧ b ≤ 4546
        · obtain ⟨b0, b1⟩ := hB
          have H4 := hid (show inB b 4520 4546 = true from decide_eq_true ⟨b0, b1⟩)
          have HR := hid (show R = (44032 + (n : Int) + b - 4519, true) by rw [hR]; unfold joinS; rw [if_neg (by omega), if_pos (by have h := eq_of_beq HZ.out.symm; omega)])
          clear hR
          go_enter Try.func7, Try.ntmps7
          go_wp2_with (first
            | (go_at_call 14; with_reducible refine (refIn6 (44032 + (n : Int)) 4352 4370 _).mono ?_; rw [H1.out]; rintro e w1 ⟨rfl, rfl⟩)
            | (go_at_call 14; with_reducible refine (refIn6 (44032 + (n : Int)) 44032 55203 _).mono ?_; rw [H3.out]; rintro e w1 ⟨rfl, rfl⟩)
            | (go_at_call 14; with_reducible refine (refIn6 b 4520 4546 _).mono ?_; rw [H4.out]; rintro e w1 ⟨rfl, rfl⟩))
          go_ret2
          exact ⟨by rw [HR.out]; rfl, rfl⟩
        · have H4 := hid (show inB b 4520 4546 = false from decide_eq_false hB)
          have HR := hid (show R = (0, false) by rw [hR]; unfold joinS; rw [if_neg (by omega), if_neg (by omega)])
          clear hR hB
          go_enter Try.func7, Try.ntmps7
          go_wp2_with (first
            | (go_at_call 14; with_reducible refine (refIn6 (44032 + (n : Int)) 4352 4370 _).mono ?_; rw [H1.out]; rintro e w1 ⟨rfl, rfl⟩)
            | (go_at_call 14; with_reducible refine (refIn6 (44032 + (n : Int)) 44032 55203 _).mono ?_; rw [H3.out]; rintro e w1 ⟨rfl, rfl⟩)
            | (go_at_call 14; with_reducible refine (refIn6 b 4520 4546 _).mono ?_; rw [H4.out]; rintro e w1 ⟨rfl, rfl⟩))
          go_ret2
          exact ⟨by rw [HR.out]; rfl, rfl⟩
    · have H3 := hid (show inB a 44032 55203 = false from decide_eq_false hC)
      have HR := hid (show R = (0, false) by rw [hR]; exact join_none hA hC)
      clear hR hA hC
      go_enter Try.func7, Try.ntmps7
      go_wp2_with (first
        | (go_at_call 14; with_reducible refine (refIn6 a 4352 4370 _).mono ?_; rw [H1.out]; rintro e w1 ⟨rfl, rfl⟩)
        | (go_at_call 14; with_reducible refine (refIn6 a 44032 55203 _).mono ?_; rw [H3.out]; rintro e w1 ⟨rfl, rfl⟩))
      go_ret2
      exact ⟨by rw [HR.out]; rfl, rfl⟩
end Go.Proofs.Ytcjfjbddooicjaa
