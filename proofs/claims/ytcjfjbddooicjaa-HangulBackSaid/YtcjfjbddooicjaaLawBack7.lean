/- Walk of law07's HangulBack, out of what is asked of package hangul. -/
import Derived.Test.YtcjfjbddooicjaaHangOk
import Derived.Test.YtcjfjbddooicjaaIx
import Derived.Test.YtcjfjbddooicjaaLater
import Derived.Deep.CutRange
namespace Go.Proofs.Ytcjfjbddooicjaa
open Go.RowKit

theorem Sl.three {k : IntKind} {w : World} {v : Value} {x y z : Int} (h : Sl k w v [x, y, z]) : ∃ b o c, v = .slice (some ⟨b, o, none⟩) 3 c ∧ w.cell? ⟨b, o, none⟩ = some (.int k x) ∧ w.cell? ⟨b, o + 1, none⟩ = some (.int k y) ∧ w.cell? ⟨b, o + 2, none⟩ = some (.int k z) := by
  obtain ⟨a, c, rfl, hl, -, h⟩ := h
  rcases h with rfl | ⟨b, o, rfl, -, h⟩
  · simp at hl
  · exact ⟨b, o, c, rfl, by simpa using h 0 (by simp), by simpa using h 1 (by simp), by simpa using h 2 (by simp)⟩
theorem ix_int (x m : Int) (h0 : 0 < m) (h1 : m ≤ 1000000) : ∃ K : Nat, wrap64 ((IntKind.u64.wrap x).tmod m) = (K : Int) ∧ (K : Int) < m := by
  obtain ⟨x0, x1⟩ := ixr x m h0 h1
  exact ⟨(wrap64 ((IntKind.u64.wrap x).tmod m)).toNat, by omega, by omega⟩

set_option maxHeartbeats 8000000 in
set_option maxRecDepth 8000 in
theorem walkBack7 (HS : SplitOk) (HJ : JoinOk) (n l v t : Int) (w : World) :
    Calls Try.prog 4 #[.int .i64 n, .int .i64 l, .int .i64 v, .int .i64 t] w fun e w' => e = .returned (.bool true) ∧ Below w.heap.size w w' := by
  have HW := hid (fun w => lawWakes7 HS HJ w)
  obtain ⟨N, hN, n0⟩ := ix_int n 11172 (by decide) (by decide)
  have n1 : N < 11172 := by omega
  obtain ⟨L, hL, l0⟩ := ix_int l 19 (by decide) (by decide)
  have l1 : L < 19 := by omega
  obtain ⟨V, hV, v0⟩ := ix_int v 21 (by decide) (by decide)
  have v1 : V < 21 := by omega
  obtain ⟨T, hT, t0⟩ := ix_int t 27 (by decide) (by decide)
  have t1 : T < 27 := by omega
  obtain ⟨C, hC⟩ : ∃ C : Int, C = 44032 + (N : Int) := ⟨_, rfl⟩
  obtain ⟨La, hLa⟩ : ∃ x : Int, x = 4352 + (L : Int) := ⟨_, rfl⟩
  obtain ⟨Va, hVa⟩ : ∃ x : Int, x = 4449 + (V : Int) := ⟨_, rfl⟩
  obtain ⟨Ta, hTa⟩ : ∃ x : Int, x = 4520 + (T : Int) := ⟨_, rfl⟩
  obtain ⟨Y, hY⟩ : ∃ x : Int, x = 44032 + (((21 * L + V) * 28 : Nat) : Int) := ⟨_, rfl⟩
  obtain ⟨Z, hZ⟩ : ∃ x : Int, x = 44032 + (((21 * L + V) * 28 + (T + 1) : Nat) : Int) := ⟨_, rfl⟩
  have j1 : joinS La Va = (Y, true) := by rw [hLa, hVa, hY]; exact join_lv l1 v1
  have j2 : joinS Y Ta = (Z, true) := by
    rw [hTa, hY, hZ, show (4520 : Int) + (T : Int) = 4519 + ((T + 1 : Nat) : Int) by omega]
    exact join_lvt (by omega) (by omega) (by omega)
  have j3 : joinS Z Ta = (0, false) := by rw [hZ]; exact join_full (by omega) (by omega) _
  have p1 : splitS Y = [La, Va] := by
    have := parts_lvt (l := L) v1 (show 0 < 28 by decide)
    rw [hY, splitS_in (by omega), show (21 * L + V) * 28 = (21 * L + V) * 28 + 0 by omega, this, hLa, hVa]
    rfl
  have p2 : splitS Z = [La, Va, Ta] := by
    have := parts_lvt (l := L) v1 (show T + 1 < 28 by omega)
    rw [hZ, splitS_in (by omega), this, if_neg (by omega), hLa, hVa, hTa, show (4520 : Int) + (T : Int) = 4519 + ((T + 1 : Nat) : Int) by omega]
  have HJ1 := hid (fun w => HJ La Va w (i64n (by omega) (by omega)) (i64n (by omega) (by omega)))
  rw [j1] at HJ1
  have HJ2 := hid (fun w => HJ Y Ta w (i64n (by omega) (by omega)) (i64n (by omega) (by omega)))
  rw [j2] at HJ2
  have HJ3 := hid (fun w => HJ Z Ta w (i64n (by omega) (by omega)) (i64n (by omega) (by omega)))
  rw [j3] at HJ3
  have HS1 := hid (fun w => HS Y w (i64n (by omega) (by omega)))
  rw [p1] at HS1
  have HS2 := hid (fun w => HS Z w (i64n (by omega) (by omega)))
  rw [p2] at HS2
  have HS0 := hid (fun w => HS C w (i64n (by omega) (by omega)))
  clear j1 j2 j3 p1 p2 hY hZ
  have e1 : 44032 + (N : Int) = C := hC.symm
  have e2 : 4352 + (L : Int) = La := hLa.symm
  have e3 : 4449 + (V : Int) = Va := hVa.symm
  have e4 : 4520 + (T : Int) = Ta := hTa.symm
  have hN2 := hN
  have hL2 := hL
  have hV2 := hV
  have hT2 := hT
  clear hLa hVa hTa
  obtain ⟨P, hP⟩ : ∃ x : Int, x = 4352 + (N : Int) / 588 := ⟨_, rfl⟩
  obtain ⟨Q, hQ⟩ : ∃ x : Int, x = 4449 + (N : Int) % 588 / 28 := ⟨_, rfl⟩
  by_cases hm : N % 28 = 0
  · skip
    have hs : splitS C = [P, Q] := by rw [hC, splitS_in (by omega), hP, hQ]; unfold partsN; rw [if_pos hm]
    have j0 : joinS P Q = (C, true) := by
      rw [hP, hQ, join_back (by omega), hC]
      congr 2
      omega
    have HJ0 := hid (fun w => HJ P Q w (i64n (by omega) (by omega)) (i64n (by omega) (by omega)))
    rw [j0] at HJ0
    rw [hs] at HS0
    clear hs j0 HS HJ hm hP hQ hC
    go_enter Try.func4, Try.ntmps4
    go_upto_region 5 with (go_at_call 9; with_reducible refine (HS0.out _).mono ?_; rintro e w1 ⟨v1, rfl, ho1, hb1⟩; obtain ⟨b1, o1, c1, rfl, x0, x1⟩ := ho1.two; have HB1 := hid hb1; clear ho1 hb1)
    have s0 := fun u : Later w1 => u.cell x0
    have s1 := fun u : Later w1 => u.cell x1
    have HK := hid (fun u : Later w1 => later_call (HJ0.out u.w))
    refine region_later (by kernel_rfl) (by kernel_rfl) ?_
    repeat (go_big_quiet_step ((go_at_call 6; with_reducible exact HK.out _)))
    refine wpQuiet_nil ?_
    intro _ hw'
    obtain ⟨u, hw''⟩ := hw'
    subst hw''
    have HBU := hid (HB1.out.trans (u.below.mono HB1.out.size))
    clear s0 s1 x0 x1 HK
    go_wp2_with (first
      | (go_at_call 11; refine (HW.out _).mono ?_; rintro e w18 ⟨rfl, hb18⟩; have HB18 := hid (HB17.out.trans (hb18.mono HB17.out.size)); clear hb18)
      | (have _u := HB16; clear _u; go_at_call 8; refine (keepInts v16 _ [La, Va, Ta] [La, Va, Ta] _ (HO16.out.below (by (repeat (first | exact Below.refl _ _ | exact below_drewN _ | refine Below.drew ?_ | refine Below.alloc ?_ (by simp) _ | refine Below.setCell ?_ (by simp) _ | refine below_drewN' ?_ _)))) (lit_sl (by first | simp | rfl) rfl rfl (by simp))).mono ?_; rw [eqL_self]; rintro e w17 ⟨rfl, n17, hw17⟩; have HB17 := hid (show Below w.heap.size w w17 from by rw [hw17]; exact below_drewN' (HB16.out.alloc HB16.out.size _) n17); clear hw17)
      | (have _u := HB15; clear _u; go_at_call 9; refine (HS2.out _).mono ?_; rintro e w16 ⟨v16, rfl, ho16, hb16⟩; have HO16 := hid ho16; have HB16 := hid (HB15.out.trans (hb16.mono HB15.out.size)); clear ho16 hb16)
      | (have _u := HB14; clear _u; go_at_call 8; refine (keepInts v14 _ [La, Va] [La, Va] _ (HO14.out.below (by (repeat (first | exact Below.refl _ _ | exact below_drewN _ | refine Below.drew ?_ | refine Below.alloc ?_ (by simp) _ | refine Below.setCell ?_ (by simp) _ | refine below_drewN' ?_ _)))) (lit_sl (by first | simp | rfl) rfl rfl (by simp))).mono ?_; rw [eqL_self]; rintro e w15 ⟨rfl, n15, hw15⟩; have HB15 := hid (show Below w.heap.size w w15 from by rw [hw15]; exact below_drewN' (HB14.out.alloc HB14.out.size _) n15); clear hw15)
      | (have _u := HB13; clear _u; go_at_call 9; refine (HS1.out _).mono ?_; rintro e w14 ⟨v14, rfl, ho14, hb14⟩; have HO14 := hid ho14; have HB14 := hid (HB13.out.trans (hb14.mono HB13.out.size)); clear ho14 hb14)
      | (have _u := HB12; clear _u; go_at_call 6; refine (HJ3.out _).mono ?_; rintro e w13 ⟨rfl, hb13⟩; have HB13 := hid (HB12.out.trans (hb13.mono HB12.out.size)); clear hb13)
      | (have _u := HB11; clear _u; go_at_call 6; refine (HJ2.out _).mono ?_; rintro e w12 ⟨rfl, hb12⟩; have HB12 := hid (HB11.out.trans (hb12.mono HB11.out.size)); clear hb12)
      | (have _u := HBU; clear _u; go_at_call 6; refine (HJ1.out _).mono ?_; rintro e w11 ⟨rfl, hb11⟩; have HB11 := hid (HBU.out.trans (hb11.mono HBU.out.size)); clear hb11))
    go_ret
    exact ⟨rfl, HB18.out⟩
  · skip
    obtain ⟨R, hR⟩ : ∃ x : Int, x = 4519 + (N : Int) % 28 := ⟨_, rfl⟩
    obtain ⟨X, hX⟩ : ∃ x : Int, x = 44032 + ((N / 28 * 28 : Nat) : Int) := ⟨_, rfl⟩
    have hs : splitS C = [P, Q, R] := by rw [hC, splitS_in (by omega), hP, hQ, hR]; unfold partsN; rw [if_neg hm]
    have j0 : joinS P Q = (X, true) := by rw [hP, hQ, join_back (by omega), hX]
    have j9 : joinS X R = (C, true) := by rw [hX, hR, join_back2 (by omega) hm, hC]
    have HJ0 := hid (fun w => HJ P Q w (i64n (by omega) (by omega)) (i64n (by omega) (by omega)))
    rw [j0] at HJ0
    have HJ9 := hid (fun w => HJ X R w (i64n (by omega) (by omega)) (i64n (by omega) (by omega)))
    rw [j9] at HJ9
    rw [hs] at HS0
    clear hs j0 j9 HS HJ hm hP hQ hR hX hC
    go_enter Try.func4, Try.ntmps4
    go_upto_region 5 with (go_at_call 9; with_reducible refine (HS0.out _).mono ?_; rintro e w1 ⟨v1, rfl, ho1, hb1⟩; obtain ⟨b1, o1, c1, rfl, x0, x1, x2⟩ := ho1.three; have HB1 := hid hb1; clear ho1 hb1)
    have s0 := fun u : Later w1 => u.cell x0
    have s1 := fun u : Later w1 => u.cell x1
    have s2 := fun u : Later w1 => u.cell x2
    have HK := hid (fun u : Later w1 => later_call (HJ0.out u.w))
    refine region_later (by kernel_rfl) (by kernel_rfl) ?_
    repeat (go_big_quiet_step ((go_at_call 6; with_reducible exact HK.out _)))
    refine wpQuiet_nil ?_
    intro _ hw'
    obtain ⟨u, hw''⟩ := hw'
    subst hw''
    have HBU := hid (HB1.out.trans (u.below.mono HB1.out.size))
    have y2 := s2 u
    clear s0 s1 s2 x0 x1 x2 HK
    go_wp2_with (first
      | (go_at_call 11; refine (HW.out _).mono ?_; rintro e w19 ⟨rfl, hb19⟩; have HB19 := hid (HB18.out.trans (hb19.mono HB18.out.size)); clear hb19)
      | (have _u := HB17; clear _u; go_at_call 8; refine (keepInts v17 _ [La, Va, Ta] [La, Va, Ta] _ (HO17.out.below (by (repeat (first | exact Below.refl _ _ | exact below_drewN _ | refine Below.drew ?_ | refine Below.alloc ?_ (by simp) _ | refine Below.setCell ?_ (by simp) _ | refine below_drewN' ?_ _)))) (lit_sl (by first | simp | rfl) rfl rfl (by simp))).mono ?_; rw [eqL_self]; rintro e w18 ⟨rfl, n18, hw18⟩; have HB18 := hid (show Below w.heap.size w w18 from by rw [hw18]; exact below_drewN' (HB17.out.alloc HB17.out.size _) n18); clear hw18)
      | (have _u := HB16; clear _u; go_at_call 9; refine (HS2.out _).mono ?_; rintro e w17 ⟨v17, rfl, ho17, hb17⟩; have HO17 := hid ho17; have HB17 := hid (HB16.out.trans (hb17.mono HB16.out.size)); clear ho17 hb17)
      | (have _u := HB15; clear _u; go_at_call 8; refine (keepInts v15 _ [La, Va] [La, Va] _ (HO15.out.below (by (repeat (first | exact Below.refl _ _ | exact below_drewN _ | refine Below.drew ?_ | refine Below.alloc ?_ (by simp) _ | refine Below.setCell ?_ (by simp) _ | refine below_drewN' ?_ _)))) (lit_sl (by first | simp | rfl) rfl rfl (by simp))).mono ?_; rw [eqL_self]; rintro e w16 ⟨rfl, n16, hw16⟩; have HB16 := hid (show Below w.heap.size w w16 from by rw [hw16]; exact below_drewN' (HB15.out.alloc HB15.out.size _) n16); clear hw16)
      | (have _u := HB14; clear _u; go_at_call 9; refine (HS1.out _).mono ?_; rintro e w15 ⟨v15, rfl, ho15, hb15⟩; have HO15 := hid ho15; have HB15 := hid (HB14.out.trans (hb15.mono HB14.out.size)); clear ho15 hb15)
      | (have _u := HB13; clear _u; go_at_call 6; refine (HJ3.out _).mono ?_; rintro e w14 ⟨rfl, hb14⟩; have HB14 := hid (HB13.out.trans (hb14.mono HB13.out.size)); clear hb14)
      | (have _u := HB12; clear _u; go_at_call 6; refine (HJ2.out _).mono ?_; rintro e w13 ⟨rfl, hb13⟩; have HB13 := hid (HB12.out.trans (hb13.mono HB12.out.size)); clear hb13)
      | (have _u := HB11; clear _u; go_at_call 6; refine (HJ1.out _).mono ?_; rintro e w12 ⟨rfl, hb12⟩; have HB12 := hid (HB11.out.trans (hb12.mono HB11.out.size)); clear hb12)
      | (have _u := HBU; clear _u; go_at_call 6; refine (HJ9.out _).mono ?_; rintro e w11 ⟨rfl, hb11⟩; have HB11 := hid (HBU.out.trans (hb11.mono HBU.out.size)); clear hb11))
    go_ret
    exact ⟨rfl, HB19.out⟩
end Go.Proofs.Ytcjfjbddooicjaa
