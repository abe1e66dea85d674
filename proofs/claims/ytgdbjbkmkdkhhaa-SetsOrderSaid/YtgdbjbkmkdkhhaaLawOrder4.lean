/- The walk of SetsOrder: it answers true and leaves what was there as it was, where package sets keeps its contracts. -/
import Derived.Test.YtgdbjbkmkdkhhaaSetsWakes
namespace Go.Proofs.Ytgdbjbkmkdkhhaa
open Go.RowKit

theorem eqL_cmp (xs ys : List Int) : eqL xs ys = decide (cmpS xs ys = 0) := by
  have := cmpS_eq xs ys
  by_cases h : xs = ys
  · rw [eqL_iff.2 h]; exact (decide_eq_true (this.2 h)).symm
  · rw [show eqL xs ys = false by simp [eqL, h]]; exact (decide_eq_false (fun hc => h (this.1 hc))).symm
theorem heavy3 {xs ys zs : List Int} (h : heavyS [xs, ys, zs] = false) : xs.length ≤ 100 ∧ ys.length ≤ 100 ∧ zs.length ≤ 100 := by
  have := (heavyS_false h).2
  exact ⟨this xs (by simp), this ys (by simp), this zs (by simp)⟩

set_option maxHeartbeats 16000000 in
theorem walkOrder (hC : CompareOk) (hO : SortedOk) (hS : SortOk) (hP : PlaceOk) (va vb vc : Value) (xs ys zs : List Int) (w : World) (ha : Sl .u8 w va xs) (hb : Sl .u8 w vb ys) (hc : Sl .u8 w vc zs) (hua : U8 xs) (hub : U8 ys) (huc : U8 zs) :
    Calls Try.prog 4 #[va, vb, vc] w fun e w' => e = .returned (.bool true) ∧ Below w.heap.size w w' := by
  obtain ⟨a1, c1, hv1⟩ := ha.form
  obtain ⟨a2, c2, hv2⟩ := hb.form
  obtain ⟨a3, c3, hv3⟩ := hc.form
  generalize xs.length = n1 at hv1
  generalize ys.length = n2 at hv2
  generalize zs.length = n3 at hv3
  subst hv1 hv2 hv3
  have UA := hid hua
  have UB := hid hub
  have UC := hid huc
  clear hua hub huc
  have HA := hid ha
  have HB := hid hb
  have HC := hid hc
  have HR := hid (lit_rows (w := w) (vs := [(.slice a1 n1 c1), (.slice a2 n2 c2), (.slice a3 n3 c3)]) (xss := [xs, ys, zs]) (e := 23) (n := w.heap.size) (len := 3) (cs := #[(.slice a1 n1 c1), (.slice a2 n2 c2), (.slice a3 n3 c3)]) rfl rfl rfl rfl (by simp) (fun i hi => by
    match i, hi with
    | 0, _ => exact ha
    | 1, _ => exact hb
    | 2, _ => exact hc))
  clear ha hb hc
  cases hh : heavyS [xs, ys, zs] with
  | true =>
    have HH := hid hh
    clear hh
    go_enter Try.func4, Try.ntmps4
    go_wp2_with (go_at_call 7; refine (lawHeavy _ [xs, ys, zs] _ HR.out).mono ?_; rw [HH.out]; rintro e w1 ⟨rfl, n0, rfl⟩)
    go_ret
    exact ⟨rfl, by (repeat (first | exact Below.refl _ _ | exact below_drewN _ | refine Below.drew ?_ | refine Below.alloc ?_ (by first | omega | (simp; done) | (simp; omega)) _ | refine Below.setCell ?_ (by first | (simp; done) | (simp; omega)) _ | refine below_drewN' ?_ _))⟩
  | false =>
    have HH := hid hh
    clear hh
    have r1 := cmpS_range xs ys
    have r2 := cmpS_range ys zs
    have r3 := cmpS_range xs zs
    have t1 := cmpS_trans xs ys zs
    have u1 := hid (cmpS_turn xs ys)
    have b1 := hid (eqL_cmp xs ys)
    obtain ⟨X, hX⟩ : ∃ X, X = cmpS xs ys := ⟨_, rfl⟩
    obtain ⟨Y, hY⟩ : ∃ Y, Y = cmpS ys zs := ⟨_, rfl⟩
    obtain ⟨Z, hZ⟩ : ∃ Z, Z = cmpS xs zs := ⟨_, rfl⟩
    rw [← hX] at r1 t1 u1 b1
    rw [← hY] at r2 t1
    rw [← hZ] at r3 t1
    have HX := hid hX
    have HY := hid hY
    have HZ := hid hZ
    clear hX hY hZ
    rcases r1 with rfl | rfl | rfl
    · rcases r2 with rfl | rfl | rfl
      · obtain rfl : Z = -1 := by omega
        clear t1 r3
        go_enter Try.func4, Try.ntmps4
        go_wp2_with (first
          | (go_at_call 20; refine (lawWakes4 hC hO hS hP (w1.drewN (k1 + k2 + k3 + k4 + k5))).mono ?_; rintro e w12 ⟨rfl, hb12⟩; have HB12 := hid (Below.trans (show Below w.heap.size w _ from below_drewN' HB1.out (k1 + k2 + k3 + k4 + k5)) (hb12.mono HB1.out.size)); clear hb12)
          | (go_at_call 17; refine (keepBytes (.slice a1 n1 c1) (.slice a2 n2 c2) xs ys (w1.drewN (k1 + k2 + k3 + k4)) (HA.out.below (below_drewN' HB1.out _)) (HB.out.below (below_drewN' HB1.out _))).mono ?_; rw [b1.out]; rintro e w6 ⟨rfl, k5, rfl⟩)
          | (go_at_call 15; refine (hC (.slice a2 n2 c2) (.slice a1 n1 c1) ys xs (w1.drewN (k1 + k2 + k3)) (HB.out.below (below_drewN' HB1.out _)) (HA.out.below (below_drewN' HB1.out _)) UB.out UA.out).mono ?_; rw [u1.out]; rintro e w5 ⟨rfl, k4, rfl⟩)
          | (go_at_call 15; refine (hC (.slice a1 n1 c1) (.slice a3 n3 c3) xs zs (w1.drewN (k1 + k2)) (HA.out.below (below_drewN' HB1.out _)) (HC.out.below (below_drewN' HB1.out _)) UA.out UC.out).mono ?_; rw [← HZ.out]; rintro e w4 ⟨rfl, k3, rfl⟩)
          | (go_at_call 15; refine (hC (.slice a2 n2 c2) (.slice a3 n3 c3) ys zs (w1.drewN k1) (HB.out.below (below_drewN' HB1.out _)) (HC.out.below (below_drewN' HB1.out _)) UB.out UC.out).mono ?_; rw [← HY.out]; rintro e w3 ⟨rfl, k2, rfl⟩)
          | (go_at_call 15; refine (hC (.slice a1 n1 c1) (.slice a2 n2 c2) xs ys w1 (HA.out.below HB1.out) (HB.out.below HB1.out) UA.out UB.out).mono ?_; rw [← HX.out]; rintro e w2 ⟨rfl, k1, rfl⟩)
          | (go_at_call 7; refine (lawHeavy _ [xs, ys, zs] _ HR.out).mono ?_; rw [HH.out]; rintro e w1 ⟨rfl, n0, hw1⟩; have HB1 : Hid (Below w.heap.size w w1) := hid (by rw [hw1]; (repeat (first | exact Below.refl _ _ | exact below_drewN _ | refine Below.drew ?_ | refine Below.alloc ?_ (by first | omega | (simp; done) | (simp; omega)) _ | refine Below.setCell ?_ (by first | (simp; done) | (simp; omega)) _ | refine below_drewN' ?_ _))); clear hw1))
        go_ret
        exact ⟨rfl, HB12.out⟩
      · obtain rfl : Z = -1 := by omega
        clear t1 r3
        go_enter Try.func4, Try.ntmps4
        go_wp2_with (first
          | (go_at_call 20; refine (lawWakes4 hC hO hS hP (w1.drewN (k1 + k2 + k3 + k4 + k5))).mono ?_; rintro e w12 ⟨rfl, hb12⟩; have HB12 := hid (Below.trans (show Below w.heap.size w _ from below_drewN' HB1.out (k1 + k2 + k3 + k4 + k5)) (hb12.mono HB1.out.size)); clear hb12)
          | (go_at_call 17; refine (keepBytes (.slice a1 n1 c1) (.slice a2 n2 c2) xs ys (w1.drewN (k1 + k2 + k3 + k4)) (HA.out.below (below_drewN' HB1.out _)) (HB.out.below (below_drewN' HB1.out _))).mono ?_; rw [b1.out]; rintro e w6 ⟨rfl, k5, rfl⟩)
          | (go_at_call 15; refine (hC (.slice a2 n2 c2) (.slice a1 n1 c1) ys xs (w1.drewN (k1 + k2 + k3)) (HB.out.below (below_drewN' HB1.out _)) (HA.out.below (below_drewN' HB1.out _)) UB.out UA.out).mono ?_; rw [u1.out]; rintro e w5 ⟨rfl, k4, rfl⟩)
          | (go_at_call 15; refine (hC (.slice a1 n1 c1) (.slice a3 n3 c3) xs zs (w1.drewN (k1 + k2)) (HA.out.below (below_drewN' HB1.out _)) (HC.out.below (below_drewN' HB1.out _)) UA.out UC.out).mono ?_; rw [← HZ.out]; rintro e w4 ⟨rfl, k3, rfl⟩)
          | (go_at_call 15; refine (hC (.slice a2 n2 c2) (.slice a3 n3 c3) ys zs (w1.drewN k1) (HB.out.below (below_drewN' HB1.out _)) (HC.out.below (below_drewN' HB1.out _)) UB.out UC.out).mono ?_; rw [← HY.out]; rintro e w3 ⟨rfl, k2, rfl⟩)
          | (go_at_call 15; refine (hC (.slice a1 n1 c1) (.slice a2 n2 c2) xs ys w1 (HA.out.below HB1.out) (HB.out.below HB1.out) UA.out UB.out).mono ?_; rw [← HX.out]; rintro e w2 ⟨rfl, k1, rfl⟩)
          | (go_at_call 7; refine (lawHeavy _ [xs, ys, zs] _ HR.out).mono ?_; rw [HH.out]; rintro e w1 ⟨rfl, n0, hw1⟩; have HB1 : Hid (Below w.heap.size w w1) := hid (by rw [hw1]; (repeat (first | exact Below.refl _ _ | exact below_drewN _ | refine Below.drew ?_ | refine Below.alloc ?_ (by first | omega | (simp; done) | (simp; omega)) _ | refine Below.setCell ?_ (by first | (simp; done) | (simp; omega)) _ | refine below_drewN' ?_ _))); clear hw1))
        go_ret
        exact ⟨rfl, HB12.out⟩
      · clear t1 r3
        go_enter Try.func4, Try.ntmps4
        go_wp2_with (first
          | (go_at_call 20; refine (lawWakes4 hC hO hS hP (w1.drewN (k1 + k2 + k3 + k4 + k5))).mono ?_; rintro e w12 ⟨rfl, hb12⟩; have HB12 := hid (Below.trans (show Below w.heap.size w _ from below_drewN' HB1.out (k1 + k2 + k3 + k4 + k5)) (hb12.mono HB1.out.size)); clear hb12)
          | (go_at_call 17; refine (keepBytes (.slice a1 n1 c1) (.slice a2 n2 c2) xs ys (w1.drewN (k1 + k2 + k3 + k4)) (HA.out.below (below_drewN' HB1.out _)) (HB.out.below (below_drewN' HB1.out _))).mono ?_; rw [b1.out]; rintro e w6 ⟨rfl, k5, rfl⟩)
          | (go_at_call 15; refine (hC (.slice a2 n2 c2) (.slice a1 n1 c1) ys xs (w1.drewN (k1 + k2 + k3)) (HB.out.below (below_drewN' HB1.out _)) (HA.out.below (below_drewN' HB1.out _)) UB.out UA.out).mono ?_; rw [u1.out]; rintro e w5 ⟨rfl, k4, rfl⟩)
          | (go_at_call 15; refine (hC (.slice a1 n1 c1) (.slice a3 n3 c3) xs zs (w1.drewN (k1 + k2)) (HA.out.below (below_drewN' HB1.out _)) (HC.out.below (below_drewN' HB1.out _)) UA.out UC.out).mono ?_; rw [← HZ.out]; rintro e w4 ⟨rfl, k3, rfl⟩)
          | (go_at_call 15; refine (hC (.slice a2 n2 c2) (.slice a3 n3 c3) ys zs (w1.drewN k1) (HB.out.below (below_drewN' HB1.out _)) (HC.out.below (below_drewN' HB1.out _)) UB.out UC.out).mono ?_; rw [← HY.out]; rintro e w3 ⟨rfl, k2, rfl⟩)
          | (go_at_call 15; refine (hC (.slice a1 n1 c1) (.slice a2 n2 c2) xs ys w1 (HA.out.below HB1.out) (HB.out.below HB1.out) UA.out UB.out).mono ?_; rw [← HX.out]; rintro e w2 ⟨rfl, k1, rfl⟩)
          | (go_at_call 7; refine (lawHeavy _ [xs, ys, zs] _ HR.out).mono ?_; rw [HH.out]; rintro e w1 ⟨rfl, n0, hw1⟩; have HB1 : Hid (Below w.heap.size w w1) := hid (by rw [hw1]; (repeat (first | exact Below.refl _ _ | exact below_drewN _ | refine Below.drew ?_ | refine Below.alloc ?_ (by first | omega | (simp; done) | (simp; omega)) _ | refine Below.setCell ?_ (by first | (simp; done) | (simp; omega)) _ | refine below_drewN' ?_ _))); clear hw1))
        go_ret
        exact ⟨rfl, HB12.out⟩
    · rcases r2 with rfl | rfl | rfl
      · obtain rfl : Z = -1 := by omega
        clear t1 r3
        go_enter Try.func4, Try.ntmps4
        go_wp2_with (first
          | (go_at_call 20; refine (lawWakes4 hC hO hS hP (w1.drewN (k1 + k2 + k3 + k4 + k5))).mono ?_; rintro e w12 ⟨rfl, hb12⟩; have HB12 := hid (Below.trans (show Below w.heap.size w _ from below_drewN' HB1.out (k1 + k2 + k3 + k4 + k5)) (hb12.mono HB1.out.size)); clear hb12)
          | (go_at_call 17; refine (keepBytes (.slice a1 n1 c1) (.slice a2 n2 c2) xs ys (w1.drewN (k1 + k2 + k3 + k4)) (HA.out.below (below_drewN' HB1.out _)) (HB.out.below (below_drewN' HB1.out _))).mono ?_; rw [b1.out]; rintro e w6 ⟨rfl, k5, rfl⟩)
          | (go_at_call 15; refine (hC (.slice a2 n2 c2) (.slice a1 n1 c1) ys xs (w1.drewN (k1 + k2 + k3)) (HB.out.below (below_drewN' HB1.out _)) (HA.out.below (below_drewN' HB1.out _)) UB.out UA.out).mono ?_; rw [u1.out]; rintro e w5 ⟨rfl, k4, rfl⟩)
          | (go_at_call 15; refine (hC (.slice a1 n1 c1) (.slice a3 n3 c3) xs zs (w1.drewN (k1 + k2)) (HA.out.below (below_drewN' HB1.out _)) (HC.out.below (below_drewN' HB1.out _)) UA.out UC.out).mono ?_; rw [← HZ.out]; rintro e w4 ⟨rfl, k3, rfl⟩)
          | (go_at_call 15; refine (hC (.slice a2 n2 c2) (.slice a3 n3 c3) ys zs (w1.drewN k1) (HB.out.below (below_drewN' HB1.out _)) (HC.out.below (below_drewN' HB1.out _)) UB.out UC.out).mono ?_; rw [← HY.out]; rintro e w3 ⟨rfl, k2, rfl⟩)
          | (go_at_call 15; refine (hC (.slice a1 n1 c1) (.slice a2 n2 c2) xs ys w1 (HA.out.below HB1.out) (HB.out.below HB1.out) UA.out UB.out).mono ?_; rw [← HX.out]; rintro e w2 ⟨rfl, k1, rfl⟩)
          | (go_at_call 7; refine (lawHeavy _ [xs, ys, zs] _ HR.out).mono ?_; rw [HH.out]; rintro e w1 ⟨rfl, n0, hw1⟩; have HB1 : Hid (Below w.heap.size w w1) := hid (by rw [hw1]; (repeat (first | exact Below.refl _ _ | exact below_drewN _ | refine Below.drew ?_ | refine Below.alloc ?_ (by first | omega | (simp; done) | (simp; omega)) _ | refine Below.setCell ?_ (by first | (simp; done) | (simp; omega)) _ | refine below_drewN' ?_ _))); clear hw1))
        go_ret
        exact ⟨rfl, HB12.out⟩
      · obtain rfl : Z = 0 := by have h1 := cmpS_trans xs ys zs; have h2 := (cmpS_eq xs ys).1 HX.out.symm; have h3 := (cmpS_eq ys zs).1 HY.out.symm; rw [HZ.out]; exact (cmpS_eq xs zs).2 (h2.trans h3)
        clear t1 r3
        go_enter Try.func4, Try.ntmps4
        go_wp2_with (first
          | (go_at_call 20; refine (lawWakes4 hC hO hS hP (w1.drewN (k1 + k2 + k3 + k4 + k5))).mono ?_; rintro e w12 ⟨rfl, hb12⟩; have HB12 := hid (Below.trans (show Below w.heap.size w _ from below_drewN' HB1.out (k1 + k2 + k3 + k4 + k5)) (hb12.mono HB1.out.size)); clear hb12)
          | (go_at_call 17; refine (keepBytes (.slice a1 n1 c1) (.slice a2 n2 c2) xs ys (w1.drewN (k1 + k2 + k3 + k4)) (HA.out.below (below_drewN' HB1.out _)) (HB.out.below (below_drewN' HB1.out _))).mono ?_; rw [b1.out]; rintro e w6 ⟨rfl, k5, rfl⟩)
          | (go_at_call 15; refine (hC (.slice a2 n2 c2) (.slice a1 n1 c1) ys xs (w1.drewN (k1 + k2 + k3)) (HB.out.below (below_drewN' HB1.out _)) (HA.out.below (below_drewN' HB1.out _)) UB.out UA.out).mono ?_; rw [u1.out]; rintro e w5 ⟨rfl, k4, rfl⟩)
          | (go_at_call 15; refine (hC (.slice a1 n1 c1) (.slice a3 n3 c3) xs zs (w1.drewN (k1 + k2)) (HA.out.below (below_drewN' HB1.out _)) (HC.out.below (below_drewN' HB1.out _)) UA.out UC.out).mono ?_; rw [← HZ.out]; rintro e w4 ⟨rfl, k3, rfl⟩)
          | (go_at_call 15; refine (hC (.slice a2 n2 c2) (.slice a3 n3 c3) ys zs (w1.drewN k1) (HB.out.below (below_drewN' HB1.out _)) (HC.out.below (below_drewN' HB1.out _)) UB.out UC.out).mono ?_; rw [← HY.out]; rintro e w3 ⟨rfl, k2, rfl⟩)
          | (go_at_call 15; refine (hC (.slice a1 n1 c1) (.slice a2 n2 c2) xs ys w1 (HA.out.below HB1.out) (HB.out.below HB1.out) UA.out UB.out).mono ?_; rw [← HX.out]; rintro e w2 ⟨rfl, k1, rfl⟩)
          | (go_at_call 7; refine (lawHeavy _ [xs, ys, zs] _ HR.out).mono ?_; rw [HH.out]; rintro e w1 ⟨rfl, n0, hw1⟩; have HB1 : Hid (Below w.heap.size w w1) := hid (by rw [hw1]; (repeat (first | exact Below.refl _ _ | exact below_drewN _ | refine Below.drew ?_ | refine Below.alloc ?_ (by first | omega | (simp; done) | (simp; omega)) _ | refine Below.setCell ?_ (by first | (simp; done) | (simp; omega)) _ | refine below_drewN' ?_ _))); clear hw1))
        go_ret
        exact ⟨rfl, HB12.out⟩
      · clear t1 r3
        go_enter Try.func4, Try.ntmps4
        go_wp2_with (first
          | (go_at_call 20; refine (lawWakes4 hC hO hS hP (w1.drewN (k1 + k2 + k3 + k4 + k5))).mono ?_; rintro e w12 ⟨rfl, hb12⟩; have HB12 := hid (Below.trans (show Below w.heap.size w _ from below_drewN' HB1.out (k1 + k2 + k3 + k4 + k5)) (hb12.mono HB1.out.size)); clear hb12)
          | (go_at_call 17; refine (keepBytes (.slice a1 n1 c1) (.slice a2 n2 c2) xs ys (w1.drewN (k1 + k2 + k3 + k4)) (HA.out.below (below_drewN' HB1.out _)) (HB.out.below (below_drewN' HB1.out _))).mono ?_; rw [b1.out]; rintro e w6 ⟨rfl, k5, rfl⟩)
          | (go_at_call 15; refine (hC (.slice a2 n2 c2) (.slice a1 n1 c1) ys xs (w1.drewN (k1 + k2 + k3)) (HB.out.below (below_drewN' HB1.out _)) (HA.out.below (below_drewN' HB1.out _)) UB.out UA.out).mono ?_; rw [u1.out]; rintro e w5 ⟨rfl, k4, rfl⟩)
          | (go_at_call 15; refine (hC (.slice a1 n1 c1) (.slice a3 n3 c3) xs zs (w1.drewN (k1 + k2)) (HA.out.below (below_drewN' HB1.out _)) (HC.out.below (below_drewN' HB1.out _)) UA.out UC.out).mono ?_; rw [← HZ.out]; rintro e w4 ⟨rfl, k3, rfl⟩)
          | (go_at_call 15; refine (hC (.slice a2 n2 c2) (.slice a3 n3 c3) ys zs (w1.drewN k1) (HB.out.below (below_drewN' HB1.out _)) (HC.out.below (below_drewN' HB1.out _)) UB.out UC.out).mono ?_; rw [← HY.out]; rintro e w3 ⟨rfl, k2, rfl⟩)
          | (go_at_call 15; refine (hC (.slice a1 n1 c1) (.slice a2 n2 c2) xs ys w1 (HA.out.below HB1.out) (HB.out.below HB1.out) UA.out UB.out).mono ?_; rw [← HX.out]; rintro e w2 ⟨rfl, k1, rfl⟩)
          | (go_at_call 7; refine (lawHeavy _ [xs, ys, zs] _ HR.out).mono ?_; rw [HH.out]; rintro e w1 ⟨rfl, n0, hw1⟩; have HB1 : Hid (Below w.heap.size w w1) := hid (by rw [hw1]; (repeat (first | exact Below.refl _ _ | exact below_drewN _ | refine Below.drew ?_ | refine Below.alloc ?_ (by first | omega | (simp; done) | (simp; omega)) _ | refine Below.setCell ?_ (by first | (simp; done) | (simp; omega)) _ | refine below_drewN' ?_ _))); clear hw1))
        go_ret
        exact ⟨rfl, HB12.out⟩
    · clear t1 r3
      go_enter Try.func4, Try.ntmps4
      go_wp2_with (first
        | (go_at_call 20; refine (lawWakes4 hC hO hS hP (w1.drewN (k1 + k2 + k3 + k4 + k5))).mono ?_; rintro e w12 ⟨rfl, hb12⟩; have HB12 := hid (Below.trans (show Below w.heap.size w _ from below_drewN' HB1.out (k1 + k2 + k3 + k4 + k5)) (hb12.mono HB1.out.size)); clear hb12)
        | (go_at_call 17; refine (keepBytes (.slice a1 n1 c1) (.slice a2 n2 c2) xs ys (w1.drewN (k1 + k2 + k3 + k4)) (HA.out.below (below_drewN' HB1.out _)) (HB.out.below (below_drewN' HB1.out _))).mono ?_; rw [b1.out]; rintro e w6 ⟨rfl, k5, rfl⟩)
        | (go_at_call 15; refine (hC (.slice a2 n2 c2) (.slice a1 n1 c1) ys xs (w1.drewN (k1 + k2 + k3)) (HB.out.below (below_drewN' HB1.out _)) (HA.out.below (below_drewN' HB1.out _)) UB.out UA.out).mono ?_; rw [u1.out]; rintro e w5 ⟨rfl, k4, rfl⟩)
        | (go_at_call 15; refine (hC (.slice a1 n1 c1) (.slice a3 n3 c3) xs zs (w1.drewN (k1 + k2)) (HA.out.below (below_drewN' HB1.out _)) (HC.out.below (below_drewN' HB1.out _)) UA.out UC.out).mono ?_; rw [← HZ.out]; rintro e w4 ⟨rfl, k3, rfl⟩)
        | (go_at_call 15; refine (hC (.slice a2 n2 c2) (.slice a3 n3 c3) ys zs (w1.drewN k1) (HB.out.below (below_drewN' HB1.out _)) (HC.out.below (below_drewN' HB1.out _)) UB.out UC.out).mono ?_; rw [← HY.out]; rintro e w3 ⟨rfl, k2, rfl⟩)
        | (go_at_call 15; refine (hC (.slice a1 n1 c1) (.slice a2 n2 c2) xs ys w1 (HA.out.below HB1.out) (HB.out.below HB1.out) UA.out UB.out).mono ?_; rw [← HX.out]; rintro e w2 ⟨rfl, k1, rfl⟩)
        | (go_at_call 7; refine (lawHeavy _ [xs, ys, zs] _ HR.out).mono ?_; rw [HH.out]; rintro e w1 ⟨rfl, n0, hw1⟩; have HB1 : Hid (Below w.heap.size w w1) := hid (by rw [hw1]; (repeat (first | exact Below.refl _ _ | exact below_drewN _ | refine Below.drew ?_ | refine Below.alloc ?_ (by first | omega | (simp; done) | (simp; omega)) _ | refine Below.setCell ?_ (by first | (simp; done) | (simp; omega)) _ | refine below_drewN' ?_ _))); clear hw1))
      go_ret
      exact ⟨rfl, HB12.out⟩

theorem orderWalk (va : Value) (xs : List Int) (vb : Value) (ys : List Int) (vc : Value) (zs : List Int) (w : World) (ha : Sl .u8 w va xs) (hua : U8 xs) (hb : Sl .u8 w vb ys) (hub : U8 ys) (hc : Sl .u8 w vc zs) (huc : U8 zs) :
    Calls Try.prog 4 #[va, vb, vc] w fun e w' => e = .returned (.bool true) ∧ Below w.heap.size w w' :=
  walkOrder compareOk sortedOk sortOk placeOk va vb vc xs ys zs w ha hb hc hua hub huc
end Go.Proofs.Ytgdbjbkmkdkhhaa
