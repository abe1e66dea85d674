/- Contract of the document's own groups of seven bits: septets answers a number's groups in new memory. -/
import Derived.Test.YtihbgpgiladfkaaDoorKeep
import Derived.Test.YtihbgpgiladfkaaDoorTlvMath
namespace Go.Proofs.YtihbgpgiladfkaaDoor
open Go.RowKit

theorem sept_len (n : Nat) (h : n ≤ 9223372036854775807) : (sept n).length ≤ 11 := by
  have := septHi_le 10 (n / 128) (by omega)
  simp [sept]; omega

set_option maxHeartbeats 1000000 in
theorem refSept (n : Int) (w : World) (n0 : 0 ≤ n) (n1 : n ≤ 9223372036854775807) :
    Calls Tryd.prog 29 #[.int .i64 n] w fun e w' => ∃ v', e = .returned v' ∧ Own .u8 5 w.heap.size w' v' (sept n.toNat) ∧ Below w.heap.size w w' := by
  have hL := sept_len n.toNat (by omega)
  go_enter Tryd.func29, Tryd.ntmps29
  go_wp2
  go_loopw [0, 3] (fun nv bv wr => ∃ (m : Nat) (bs : List Int), nv = .int .i64 m ∧ m ≤ 9223372036854775807 ∧ Hid (Own .u8 5 w.heap.size wr bv bs) ∧ Hid (septHi m ++ bs = sept n.toNat) ∧ bs.length ≤ 11 ∧ Hid (Below w.heap.size w wr) ∧ w.heap.size ≤ wr.heap.size) (fun nv _ _ => (intOf nv).toNat)
  case atStart =>
    refine ⟨n.toNat / 128, [n % 128], by congr 1; omega, by omega, lit_own rfl (Nat.le_refl _) rfl rfl (by simp), ?_, by simp, by (repeat (first | exact Below.refl _ _ | exact below_drewN _ | refine Below.drew ?_ | refine Below.alloc ?_ (by simp) _ | refine Below.setCell ?_ (by simp) _ | refine below_drewN' ?_ _)), by simp⟩
    show _ = _
    rw [sept]
    congr 2
    omega
  case round =>
    obtain ⟨m, bs, rfl, hm, hown, heq, hlen, hbel, hsz⟩ := hrel
    rcases Nat.eq_zero_or_pos m with h0 | h0
    · subst h0
      go_wp2
      go_ret
      refine ⟨_, rfl, ?_, hbel.out⟩
      have := heq.out
      rw [septHi_zero, List.nil_append] at this
      rw [← this]
      exact hown.out
    · have e1 : (m : Int) / 128 = ((m / 128 : Nat) : Int) := by omega
      have e2 : 128 + (m : Int) % 128 = 128 + ((m % 128 : Nat) : Int) := by omega
      have E1 := hid e1
      have E2 := hid e2
      clear e1 e2
      have hp : (0 : Int) < (m : Int) := by omega
      go_wp2_with (at_builtin; refine wpList_app _ rfl _ _ 23 rfl .u8 w.heap.size 5 1 Tryd.underlying23 Tryd.infoU8 _ [128 + (m : Int) % 128] bs rfl (lit_own rfl hsz rfl rfl (by simp)) _ rfl (hown.out.sl.below (by (repeat (first | exact Below.refl _ _ | exact below_drewN _ | refine Below.drew ?_ | refine Below.alloc ?_ (by simp) _ | refine Below.setCell ?_ (by simp) _ | refine below_drewN' ?_ _)))) (by unfold maxLen; simp; omega) (by simp; omega) (by first | omega | (simp; omega) | simp) ?_; intro v2 w2 ho2 hg2 hb2 hn2)
      have hz2 := hg2.size
      simp at hz2
      have hl2 : (septHi m ++ bs).length = (sept n.toNat).length := by rw [heq.out]
      rw [septHi_pos (by omega)] at hl2
      simp at hl2
      go_roundw
      case rel =>
        refine ⟨m / 128, [128 + (m : Int) % 128] ++ bs, by rw [E1.out], by omega, ho2, ?_, by simp; omega, (hbel.out.trans ?_).trans hb2, by omega⟩
        · show _ = _
          rw [← heq.out, septHi_pos (n := m) (by omega), E2.out]
          simp
        · (repeat (first | exact Below.refl _ _ | exact below_drewN _ | refine Below.drew ?_ | refine Below.alloc ?_ (by simp; omega) _ | refine Below.alloc ?_ (by omega) _ | refine Below.setCell ?_ (by simp; omega) _ | refine below_drewN' ?_ _))
      case measure =>
        rw [E1.out]
        simp [intOf]
        omega
end Go.Proofs.YtihbgpgiladfkaaDoor
