/- Contract of the library's rotation of a row of numbers (slices.rotateCmpFunc at []int): two neighbouring runs change places. -/
import Derived.Test.YtgdbjbkmkdkhhaaStab1
namespace Go.Proofs.Ytgdbjbkmkdkhhaa
open Go.RowKit

set_option maxHeartbeats 2000000 in
theorem rotateRow (g cap n : Nat) (A L R C : List Nat) (a m b : Nat) (cb : Value) (w : World) (hb : Box 3 (cv (A ++ L ++ R ++ C)) g w) (hp : A.length + L.length + R.length + C.length = n) (hn : n ≤ 1000000)
    (hL : 0 < L.length) (hR : 0 < R.length) (ha : a = A.length) (hm : m = a + L.length) (hbb : b = m + R.length) :
    Calls Try.prog 32 #[.slice (some ⟨g, 0, none⟩) n cap, .int .i64 a, .int .i64 m, .int .i64 b, cb] w fun e w' => e = .returned (.tuple #[]) ∧ Rown g w (A ++ R ++ L ++ C) w' := by
  have HR := hid (Rown.refl hb)
  clear hb
  obtain ⟨i0, hi0⟩ : ∃ i0, i0 = L.length := ⟨_, rfl⟩
  obtain ⟨j0, hj0⟩ : ∃ j0, j0 = R.length := ⟨_, rfl⟩
  have w1 : (m : Int) - (a : Int) = (i0 : Int) := by omega
  have w2 : (b : Int) - (m : Int) = (j0 : Int) := by omega
  have hmn : m ≤ n := by omega
  have hbn : b ≤ n := by omega
  have HH := hid (show A.length + i0 = m ∧ m + j0 + C.length = n ∧ i0 = L.length ∧ j0 = R.length by omega)
  rw [← hi0] at hL
  rw [← hj0] at hR
  clear hp ha hm hbb hi0 hj0
  go_enter Try.func32, Try.ntmps32
  go_wp2
  go_loopw [10, 11] (fun iv jv wr => ∃ (i j : Nat) (A1 L1 R1 C1 : List Nat), iv = .int .i64 i ∧ jv = .int .i64 j ∧ 0 < i ∧ 0 < j ∧ i ≤ m ∧ m + j ≤ n ∧ Hid (A1.length + i = m ∧ m + j + C1.length = n ∧ i = L1.length ∧ j = R1.length) ∧ Hid (A1 ++ R1 ++ L1 ++ C1 = A ++ R ++ L ++ C) ∧ Hid (Rown g w (A1 ++ L1 ++ R1 ++ C1) wr)) (fun iv jv _ => (intOf iv).toNat + (intOf jv).toNat)
  case atStart => exact ⟨i0, j0, A, L, R, C, rfl, rfl, hL, hR, by have := HH.out; omega, by have := HH.out; omega, HH.out, rfl, HR.out⟩
  case round =>
    obtain ⟨i, j, A1, L1, R1, C1, rfl, rfl, hi, hj, him, hjn, hlen, heq, hr⟩ := hrel
    clear HH HR w1 w2
    obtain ⟨mi, hmi⟩ : ∃ mi, mi = m - i := ⟨_, rfl⟩
    have w3 : (m : Int) - (i : Int) = (mi : Int) := by omega
    have HMI := hid hmi
    clear hmi
    rcases Nat.lt_trichotomy i j with hij | hij | hij
    · obtain ⟨ji, hji⟩ : ∃ ji, ji = j - i := ⟨_, rfl⟩
      obtain ⟨mj, hmj⟩ : ∃ mj, mj = m + ji := ⟨_, rfl⟩
      have w4 : (m : Int) + (j : Int) - (i : Int) = (mj : Int) := by omega
      have w5 : (j : Int) - (i : Int) = (ji : Int) := by omega
      have hcut : ∃ R2 R3, R1 = R2 ++ R3 ∧ R2.length = ji ∧ R3.length = i := ⟨R1.take ji, R1.drop ji, (List.take_append_drop _ _).symm, by have := hlen.out; rw [List.length_take]; omega, by have := hlen.out; rw [List.length_drop]; omega⟩
      obtain ⟨R2, R3, rfl, hR2, hR3⟩ := hcut
      have hsw := swR_runs A1 L1 R2 R3 C1 (by have := hlen.out; omega)
      have HNX := hid (show A1.length + i = m ∧ m + ji + (L1 ++ C1).length = n ∧ i = R3.length ∧ ji = R2.length by have := hlen.out; simp at this ⊢; omega)
      have HEQ : Hid (A1 ++ R2 ++ R3 ++ (L1 ++ C1) = A ++ R ++ L ++ C) := hid (by rw [← heq.out]; simp)
      have e1 : A1.length = mi := by have := hlen.out; have := HMI.out; omega
      have e2 : A1.length + L1.length + R2.length = mj := by have := hlen.out; omega
      have e3 : L1.length = i := by have := hlen.out; omega
      rw [e2, e1, e3] at hsw
      have HSW := hid hsw
      have HBX := hid hr.out.1
      have HLN := hid (show (A1 ++ L1 ++ (R2 ++ R3) ++ C1).length = n by have := hlen.out; simp at this ⊢; omega)
      have HG := hid hmj
      clear hsw e1 e2 e3 hR2 hR3 hmj hlen heq
      go_wp2_with (go_at_call 33; refine (swapRange g cap n (A1 ++ L1 ++ (R2 ++ R3) ++ C1) mi mj i cb wr HBX.out HLN.out hn (by have := HMI.out; have := HG.out; omega) (by have := HMI.out; have := HG.out; omega)).mono ?_; rintro e w6 ⟨rfl, hr6⟩; have HR6 := hid hr6; clear hr6)
      go_roundw
      case rel => exact ⟨i, ji, A1, R3, R2, L1 ++ C1, rfl, by first | rfl | (congr 1; omega), hi, by omega, him, by omega, HNX.out, HEQ.out, by
        have h6 := HR6.out
        rw [show A1 ++ L1 ++ (R2 ++ R3) ++ C1 = A1 ++ L1 ++ R2 ++ R3 ++ C1 by simp, HSW.out] at h6
        rw [show A1 ++ R3 ++ R2 ++ (L1 ++ C1) = A1 ++ R3 ++ R2 ++ L1 ++ C1 by simp]
        exact hr.out.trans h6⟩
      case measure => simp [intOf]; omega
    · subst hij
      have hsw := swR_runs A1 L1 [] R1 C1 (by have := hlen.out; omega)
      have e1 : A1.length = mi := by have := hlen.out; have := HMI.out; omega
      have e2 : A1.length + L1.length + ([] : List Nat).length = m := by have := hlen.out; simp; omega
      have e3 : L1.length = i := by have := hlen.out; omega
      rw [e2, e1, e3] at hsw
      have HSW := hid hsw
      have HBX := hid hr.out.1
      have HLN := hid (show (A1 ++ L1 ++ R1 ++ C1).length = n by have := hlen.out; simp at this ⊢; omega)
      clear hsw e1 e2 e3 hlen
      go_wp2_with (go_at_call 33; refine (swapRange g cap n (A1 ++ L1 ++ R1 ++ C1) mi m i cb wr HBX.out HLN.out hn (by have := HMI.out; omega) (by omega)).mono ?_; rintro e w6 ⟨rfl, hr6⟩; have HR6 := hid hr6; clear hr6)
      go_end0
      refine ⟨rfl, ?_⟩
      have h6 := HR6.out
      rw [show A1 ++ L1 ++ R1 ++ C1 = A1 ++ L1 ++ [] ++ R1 ++ C1 by simp, HSW.out] at h6
      rw [← heq.out, show A1 ++ R1 ++ L1 ++ C1 = A1 ++ R1 ++ [] ++ L1 ++ C1 by simp]
      exact hr.out.trans h6
    · obtain ⟨ij, hji⟩ : ∃ ij, ij = i - j := ⟨_, rfl⟩
      have w5 : (i : Int) - (j : Int) = (ij : Int) := by omega
      have hcut : ∃ L2 L3, L1 = L2 ++ L3 ∧ L2.length = j ∧ L3.length = ij := ⟨L1.take j, L1.drop j, (List.take_append_drop _ _).symm, by have := hlen.out; rw [List.length_take]; omega, by have := hlen.out; rw [List.length_drop]; omega⟩
      obtain ⟨L2, L3, rfl, hL2, hL3⟩ := hcut
      have hsw := swR_runs A1 L2 L3 R1 C1 (by have := hlen.out; omega)
      have HNX := hid (show (A1 ++ R1).length + ij = m ∧ m + j + C1.length = n ∧ ij = L3.length ∧ j = L2.length by have := hlen.out; simp at this ⊢; omega)
      have HEQ : Hid (A1 ++ R1 ++ L2 ++ L3 ++ C1 = A ++ R ++ L ++ C) := hid (by rw [← heq.out]; simp)
      have e1 : A1.length = mi := by have := hlen.out; have := HMI.out; omega
      have e2 : A1.length + L2.length + L3.length = m := by have := hlen.out; omega
      rw [e2, e1, hL2] at hsw
      have HSW := hid hsw
      have HBX := hid hr.out.1
      have HLN := hid (show (A1 ++ (L2 ++ L3) ++ R1 ++ C1).length = n by have := hlen.out; simp at this ⊢; omega)
      clear hsw e1 e2 hL2 hL3 hlen heq
      go_wp2_with (go_at_call 33; refine (swapRange g cap n (A1 ++ (L2 ++ L3) ++ R1 ++ C1) mi m j cb wr HBX.out HLN.out hn (by have := HMI.out; omega) (by omega)).mono ?_; rintro e w6 ⟨rfl, hr6⟩; have HR6 := hid hr6; clear hr6)
      go_roundw
      case rel => exact ⟨ij, j, A1 ++ R1, L3, L2, C1, by first | rfl | (congr 1; omega), rfl, by omega, hj, by omega, by omega, HNX.out, HEQ.out, by
        have h6 := HR6.out
        rw [show A1 ++ (L2 ++ L3) ++ R1 ++ C1 = A1 ++ L2 ++ L3 ++ R1 ++ C1 by simp, HSW.out] at h6
        exact hr.out.trans h6⟩
      case measure => simp [intOf]; omega
end Go.Proofs.Ytgdbjbkmkdkhhaa
