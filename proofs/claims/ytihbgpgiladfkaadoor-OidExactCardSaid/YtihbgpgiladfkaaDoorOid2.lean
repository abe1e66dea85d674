/- Contract of package oid's writer of a number: appendNumber puts the groups of seven bits behind what the call owns. -/
import Derived.Test.YtihbgpgiladfkaaDoorOid1
import Derived.Laws.Bits128
namespace Go.Proofs.YtihbgpgiladfkaaDoor
open Go.RowKit

/-- 128 with a number's low byte. -/
theorem or_128 : ∀ x : Int, 0 ≤ x → x ≤ 255 → bits .or .u8 128 x = 128 + x % 128 := all_u8 (by decide +kernel)

theorem shr_sept (n : Int) (k : Nat) (h : 0 ≤ n) : n / 2 ^ (7 * k) = ((n.toNat / 128 ^ k : Nat) : Int) := by
  obtain ⟨m, rfl⟩ := Int.eq_ofNat_of_zero_le h
  rw [Int.toNat_natCast, Int.natCast_ediv, Int.natCast_pow, Int.pow_mul]
  rfl
theorem septHi_top (m : Nat) (h : m ≤ 9223372036854775807) : septHi (m / 128 ^ 9) = [] := by
  rw [show m / 128 ^ 9 = 0 from Nat.div_eq_of_lt (by omega), septHi_zero]
theorem septHi_next (m k : Nat) (h : m / 128 ^ k ≠ 0) : septHi (m / 128 ^ k) = septHi (m / 128 ^ (k + 1)) ++ [128 + ((m / 128 ^ k % 128 : Nat) : Int)] := by
  rw [septHi_pos h, Nat.pow_succ, Nat.div_div_eq_div_mul]
theorem septHi_none (m k : Nat) (h : m / 128 ^ k = 0) : septHi (m / 128 ^ k) = septHi (m / 128 ^ (k + 1)) := by
  rw [Nat.pow_succ, ← Nat.div_div_eq_div_mul, h]

theorem oidAppend (v : Value) (bs : List Int) (n : Int) (base : Nat) (w : World) (h : Own .u8 5 base w v bs) (hbase : base ≤ w.heap.size) (n0 : 0 ≤ n) (n1 : n ≤ maxN) (hl : bs.length ≤ 1000000) :
    Calls Tryd.prog 21 #[v, .int .i64 n] w fun e w' => ∃ v', e = .returned v' ∧ Own .u8 5 base w' v' (bs ++ sept n.toNat) ∧ Below base w w' := by
  unfold maxN at n1
  have H := hid h
  obtain ⟨a, cap, ha, -, -, -⟩ := h.sl
  clear h
  subst ha
  go_enter Tryd.func21, Tryd.ntmps21
  go_wp2
  go_loopw [0, 5] (fun bv iv wr => ∃ (k : Nat) (cs : List Int), k ≤ 8 ∧ iv = .int .i64 k ∧ Hid (Own .u8 5 base wr bv (bs ++ cs)) ∧ Hid (cs = septHi (n.toNat / 128 ^ (k + 1))) ∧ cs.length + k ≤ 8 ∧ Hid (Below base w wr) ∧ base ≤ wr.heap.size) (fun _ iv _ => (intOf iv).toNat)
  case atStart => exact ⟨8, [], by omega, rfl, by rw [List.append_nil]; exact H.out, (septHi_top _ (by omega)).symm, by simp, Below.refl _ _, hbase⟩
  case round =>
    obtain ⟨k, cs, hk, rfl, hown, hcs, hlen, hbel, hsz⟩ := hrel
    rcases Nat.eq_zero_or_pos k with h0 | h0
    · subst h0
      obtain ⟨ab, cb, hab, -, -, -⟩ := hown.out.sl
      subst hab
      obtain ⟨r, hr⟩ : ∃ r : Int, r = ((n.toNat % 128 : Nat) : Int) := ⟨_, rfl⟩
      have e1 : bits .and .i64 n 127 = r := by
        rw [i64_and127]
        omega
      have e2 : r % 256 = r := by omega
      have HR := hid hr
      clear hr
      go_wp2_with (at_builtin; go_loud (refine wpList_app _ rfl _ _ 23 rfl .u8 base 5 1 Tryd.underlying23 Tryd.infoU8 _ (bs ++ cs) [r] rfl (hown.out.below (by (repeat (first | exact Below.refl _ _ | exact below_drewN _ | refine Below.drew ?_ | refine Below.alloc ?_ (by simp) _ | refine Below.setCell ?_ (by simp) _ | refine below_drewN' ?_ _)))) _ rfl (one_sl (by first | simp | rfl)) (by unfold maxLen; first | omega | (simp; omega)) (by first | omega | (simp; omega) | simp) (by first | omega | (simp; omega) | simp) ?_); intro v2 w2 ho2 hg2 hb2 hn2)
      go_ret
      refine ⟨_, rfl, ?_, hbel.out.trans (Below.trans ?_ hb2)⟩
      · have hc := hcs.out
        rw [hc, HR.out] at ho2
        unfold sept
        rw [← List.append_assoc]
        simpa using ho2
      · (repeat (first | exact Below.refl _ _ | exact below_drewN _ | refine Below.drew ?_ | refine Below.alloc ?_ (by simp; omega) _ | refine Below.alloc ?_ (by omega) _ | refine Below.setCell ?_ (by simp; omega) _ | refine below_drewN' ?_ _))
    · have hp : (0 : Int) < (k : Int) := by omega
      have hk9 : (k : Int) ≤ 8 := by omega
      have hq := shr_sept n k n0
      obtain ⟨q, hq1⟩ : ∃ q, q = n.toNat / 128 ^ k := ⟨_, rfl⟩
      rw [← hq1] at hq
      have HQ := hid hq1
      clear hq1
      rcases Nat.eq_zero_or_pos q with hq0 | hq0
      · rw [hq0] at hq
        have hq' : n / 2 ^ (7 * k) = 0 := hq
        clear hq
        go_wp2_with (fail)
        go_roundw
        case rel =>
          refine ⟨k - 1, cs, by omega, by go_num, hown.out, ?_, by omega, hbel.out, hsz⟩
          show _ = _
          rw [hcs.out, Nat.sub_add_cancel h0, septHi_none n.toNat k (by rw [← HQ.out, hq0])]
        case measure => simp [intOf]; omega
      · have e2 : bits .or .u8 128 ((q : Int) % 256) = 128 + ((q % 128 : Nat) : Int) := by
          rw [or_128 _ (by omega) (by omega)]
          omega
        have hqp : (0 : Int) < (q : Int) := by omega
        go_wp2_with (at_builtin; go_loud (refine wpList_app _ rfl _ _ 23 rfl .u8 base 5 1 Tryd.underlying23 Tryd.infoU8 _ (bs ++ cs) [128 + ((q % 128 : Nat) : Int)] rfl (hown.out.below (by (repeat (first | exact Below.refl _ _ | exact below_drewN _ | refine Below.drew ?_ | refine Below.alloc ?_ (by simp) _ | refine Below.setCell ?_ (by simp) _ | refine below_drewN' ?_ _)))) _ rfl (one_sl (by first | simp | rfl)) (by unfold maxLen; first | omega | (simp; omega)) (by first | omega | (simp; omega) | simp) (by first | omega | (simp; omega) | simp) ?_); intro v2 w2 ho2 hg2 hb2 hn2)
        have hz2 := hg2.size
        simp at hz2
        go_roundw
        case rel =>
          refine ⟨k - 1, cs ++ [128 + ((q % 128 : Nat) : Int)], by omega, by go_num, by rw [← List.append_assoc]; exact ho2, ?_, by simp; omega, hbel.out.trans (Below.trans ?_ hb2), by omega⟩
          · show _ = _
            rw [hcs.out, HQ.out, Nat.sub_add_cancel h0, septHi_next n.toNat k (by rw [← HQ.out]; omega)]
          · (repeat (first | exact Below.refl _ _ | exact below_drewN _ | refine Below.drew ?_ | refine Below.alloc ?_ (by simp; omega) _ | refine Below.alloc ?_ (by omega) _ | refine Below.setCell ?_ (by simp; omega) _ | refine below_drewN' ?_ _))
        case measure => simp [intOf]; omega
end Go.Proofs.YtihbgpgiladfkaaDoor
