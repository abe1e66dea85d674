/- Several texts in one: LawExact10, LawLess10, LawTwo10, LawOff10. -/
import Derived.Test.YtldjcogjimgnbaaPk16
import Derived.Test.YtldjcogjimgnbaaPk19
import Derived.Test.YtldjcogjimgnbaaPk10
import Derived.Test.YtldjcogjimgnbaaPk14
import Derived.Test.YtldjcogjimgnbaaPk2
import Derived.Deep.CutRange
/-! LawExact10 -/
namespace Go.Proofs.Ytldjcogjimgnbaa
open Go.RowKit

set_option maxHeartbeats 4000000 in
theorem walkExact10 (H2 : CTwoOk) (HA : CAllOk) (v : Value) (s : List Int) (a b : Int) (w : World) (h : Sl .i64 w v s) (hi : s.all inI = true) (ha : I64n a) (hb : I64n b) :
    Calls Try.prog 3 #[v, .int .i64 a, .int .i64 b] w fun e w' => e = .returned (.bool true) ∧ Below w.heap.size w w' := by
  have HS := hid h
  have ml := h.len
  obtain ⟨av, cc, hv⟩ := h.form
  obtain ⟨n, hn⟩ : ∃ n, n = s.length := ⟨_, rfl⟩
  rw [← hn] at hv ml
  subst hv
  have HN := hid hn
  have HW := hid (fun w => lawWakes10 HA w)
  clear hn h
  by_cases hl : n ≤ 200
  · have G1 := hid (fun w h => keepTwinInts (.slice av n cc) s w h (by have := HN.out; omega))
    have G2 := hid (fun w => H2 a b w ha hb)
    have G3 := hid (fun B w h => refTwo10 B a b w h ha hb)
    have G4 := hid (fun v w h => HA v s w h hi (by have := HN.out; omega))
    have G5 := hid (fun B w ht h => refCompose10 B (.slice av n cc) s w ht h hi (by have := HN.out; omega))
    generalize compG classS twoS s = X at G4 G5
    generalize twoS a b = R at G2 G3
    obtain ⟨m, ok⟩ := R
    clear H2 HA hi
    go_enter Try.func3, Try.ntmps3
    go_wp2_with (first
      | (have _u := HB8; clear _u; go_at_call 14; refine (HW.out _).mono ?_; rintro e w9 ⟨rfl, hb9⟩; have HB9 := hid (HB8.out.trans (hb9.mono HB8.out.size)); clear hb9)
      | (have _u := HB7; clear _u; go_at_call 11; refine (keepInts v2 (.slice av n cc) s s _ (HO2.out.sl.below HP7.out) (HS.out.below HB7.out)).mono ?_; rw [eqL_self]; rintro e w8 ⟨rfl, n8, hw8⟩; have HB8 := hid (show Below w.heap.size w w8 from by rw [hw8]; exact below_drewN' HB7.out n8); clear hw8)
      | (have _u := HB6; clear _u; go_at_call 11; refine (keepInts v5 v6 X X _ HO56.out.sl HO6.out.sl).mono ?_; rw [eqL_self]; rintro e w7 ⟨rfl, n7, hw7⟩; have HB7 := hid (show Below w.heap.size w w7 from by rw [hw7]; exact below_drewN' HB6.out n7); have HP7 := hid (show Below w2.heap.size w2 w7 from by rw [hw7]; exact below_drewN' HP6.out n7); clear hw7)
      | (have _u := HB5; clear _u; go_at_call 13; refine (G5.out B _ (HT.out.below HQ5.out) (HS.out.below HB5.out)).mono ?_; rintro e w6 ⟨v6, rfl, ho6, hb6⟩; have HO6 := hid ho6; have HO56 := hid (HO5.out.below hb6); have HB6 := hid (HB5.out.trans (hb6.mono HB5.out.size)); have HP6 := hid (HP5.out.trans (hb6.mono HP5.out.size)); clear ho6 hb6)
      | (have _u := HB4; clear _u; go_at_call 12; refine (G4.out v2 _ (HO2.out.sl.below HP4.out)).mono ?_; rintro e w5 ⟨v5, rfl, ho5, hb5⟩; have HO5 := hid ho5; have HB5 := hid (HB4.out.trans (hb5.mono HB4.out.size)); have HP5 := hid (HP4.out.trans (hb5.mono HP4.out.size)); have HQ5 := hid (HQ2.out.trans (HP5.out.mono HQ2.out.size)); clear ho5 hb5)
      | (have _u := HB3; clear _u; go_at_call 10; refine (G3.out B _ (HT.out.below HQ3.out)).mono ?_; rintro e w4 ⟨rfl, hb4⟩; have HB4 := hid (HB3.out.trans (hb4.mono HB3.out.size)); have HP4 := hid (HP3.out.trans (hb4.mono HP3.out.size)); clear hb4)
      | (have _u := HB2; clear _u; go_at_call 9; refine (G2.out _).mono ?_; rintro e w3 ⟨rfl, hb3⟩; have HB3 := hid (HB2.out.trans (hb3.mono HB2.out.size)); have HP3 := hid hb3; have HQ3 := hid (HQ2.out.trans (hb3.mono HQ2.out.size)); clear hb3)
      | (have _u := HB1; clear _u; go_at_call 8; refine (G1.out _ (HS.out.below HB1.out)).mono ?_; rintro e w2 ⟨v2, rfl, ho2, hb2⟩; have HO2 := hid ho2; have HB2 := hid (HB1.out.trans (hb2.mono HB1.out.size)); have HQ2 := hid hb2; clear ho2 hb2)
      | (go_at_call 7; refine (refAll6 _).mono ?_; rintro e w1 ⟨B, rfl, ht1, hb1⟩; have HT := hid ht1; have HB1 := hid hb1; clear ht1 hb1))
    go_ret
    exact ⟨by simp, HB9.out⟩
  · have hl2 : 200 < n := by omega
    clear H2 HA hl
    go_enter Try.func3, Try.ntmps3
    go_wp2
    go_ret
    exact ⟨rfl, Below.refl _ _⟩
end Go.Proofs.Ytldjcogjimgnbaa

/-! LawLess10 -/
namespace Go.Proofs.Ytldjcogjimgnbaa
open Go.RowKit

set_option maxHeartbeats 4000000 in
theorem walkLess10 (HA : CAllOk) (HD : DAllOk) (HP : OPutOk) (v : Value) (s : List Int) (w : World) (h : Sl .i64 w v s) (hi : s.all inI = true) :
    Calls Try.prog 4 #[v] w fun e w' => e = .returned (.bool true) ∧ Below w.heap.size w w' := by
  have HS := hid h
  have ml := h.len
  obtain ⟨av, cc, hv⟩ := h.form
  obtain ⟨n, hn⟩ : ∃ n, n = s.length := ⟨_, rfl⟩
  rw [← hn] at hv ml
  subst hv
  have HN := hid hn
  have HW := hid (fun w => lawWakes10 HA w)
  clear hn h
  by_cases hl : n ≤ 200
  · have hsame := comp_same (cl := classS) (two := twoS) (o := oneS false) class_pos (fun _ _ h => two_apart h) (fun _ h => class_apart h) (putG classS s) (put_ord class_pos s)
    obtain ⟨S, hS⟩ : ∃ S, S = putG classS s := ⟨_, rfl⟩
    have hSl : S.length = n := by rw [hS, put_len]; exact HN.out.symm
    have hSi : S.all inI = true := by rw [hS]; exact put_inI hi
    have G1 := hid (fun w h => HP (.slice av n cc) s w h (by have := HN.out; omega))
    rw [← hS] at G1 hsame
    obtain ⟨X, hX⟩ : ∃ X, X = compG classS twoS S := ⟨_, rfl⟩
    have hXl : X.length ≤ n := by rw [hX, ← hSl]; exact comp_len S
    have hXi : X.all inI = true := by rw [hX]; exact comp_inI hSi
    have G2 := hid (fun v w h => HA v S w h hSi (by omega))
    rw [← hX] at G2 hsame
    have G3 := hid (fun v w h => HD false v X w h hXi (by omega))
    have G4 := hid (fun v w h => HD false v S w h hSi (by omega))
    have G5 := hid (fun v w h => HP v (allS false X) w h (allS_small (by omega)))
    have G6 := hid (fun v w h => HP v (allS false S) w h (allS_small (by omega)))
    have hsame2 : putG classS (allS false X) = putG classS (allS false S) := hsame
    rw [hsame2] at G5
    generalize putG classS (allS false S) = Z at G5 G6
    generalize allS false X = DX at G3 G5
    generalize allS false S = DS at G4 G6
    have hle : (X.length : Int) ≤ (S.length : Int) := by omega
    obtain ⟨nx, hnx⟩ : ∃ nx, nx = X.length := ⟨_, rfl⟩
    obtain ⟨ns, hns⟩ : ∃ ns, ns = S.length := ⟨_, rfl⟩
    rw [← hnx, ← hns] at hle
    have HNX := hid hnx
    have HNS := hid hns
    clear HA HD HP hi hS hX hSl hSi hXl hXi hsame hsame2 hnx hns
    go_enter Try.func4, Try.ntmps4
    go_wp2_with (first
      | (have _u := HB7; clear _u; go_at_call 14; refine (HW.out _).mono ?_; rintro e w8 ⟨rfl, hb8⟩; have HB8 := hid (HB7.out.trans (hb8.mono HB7.out.size)); clear hb8)
      | (have _u := HB6; clear _u; go_at_call 11; refine (keepInts v4 v6 Z Z _ HO46.out.sl HO6.out.sl).mono ?_; rw [eqL_self]; rintro e w7 ⟨rfl, n7, hw7⟩; have HB7 := hid (show Below w.heap.size w w7 from by rw [hw7]; exact below_drewN' HB6.out n7); clear hw7)
      | (have _u := HB5; clear _u; go_at_call 15; with_reducible refine (G6.out v5 _ HO5.out.sl).mono ?_; rintro e w6 ⟨v6, rfl, ho6, hb6⟩; have HO6 := hid ho6; have HO46 := hid (HO45.out.below hb6); have HB6 := hid (HB5.out.trans (hb6.mono HB5.out.size)); clear ho6 hb6)
      | (have _u := HB4; clear _u; go_at_call 16; with_reducible refine (G4.out (.slice a1 ns c1) _ HO14.out).mono ?_; rintro e w5 ⟨v5, rfl, ho5, hb5⟩; have HO5 := hid ho5; have HO45 := hid (HO4.out.below hb5); have HB5 := hid (HB4.out.trans (hb5.mono HB4.out.size)); clear ho5 hb5)
      | (have _u := HB3; clear _u; go_at_call 15; with_reducible refine (G5.out v3 _ HO3.out.sl).mono ?_; rintro e w4 ⟨v4, rfl, ho4, hb4⟩; have HO4 := hid ho4; have HO14 := hid (HO13.out.below hb4); have HB4 := hid (HB3.out.trans (hb4.mono HB3.out.size)); clear ho4 hb4)
      | (have _u := HB2; clear _u; go_at_call 16; with_reducible refine (G3.out (.slice a2 nx c2) _ HO2.out).mono ?_; rintro e w3 ⟨v3, rfl, ho3, hb3⟩; have HO3 := hid ho3; have HO13 := hid (HO12.out.below hb3); have HB3 := hid (HB2.out.trans (hb3.mono HB2.out.size)); clear ho3 hb3)
      | (have _u := HB1; clear _u; go_at_call 12; with_reducible refine (G2.out (.slice a1 ns c1) _ HO1.out).mono ?_; rintro e w2 ⟨v2, rfl, ho2, hb2⟩; obtain ⟨a2, c2, hv2⟩ := ho2.sl.form; rw [← HNX.out] at hv2; subst hv2; have HO2 := hid ho2.sl; have HO12 := hid (HO1.out.below hb2); have HB2 := hid (HB1.out.trans (hb2.mono HB1.out.size)); clear ho2 hb2)
      | (go_at_call 15; with_reducible refine (G1.out _ HS.out).mono ?_; rintro e w1 ⟨v1, rfl, ho1, hb1⟩; obtain ⟨a1, c1, hv1⟩ := ho1.sl.form; rw [← HNS.out] at hv1; subst hv1; have HO1 := hid ho1.sl; have HB1 := hid hb1; clear ho1 hb1))
    go_ret
    exact ⟨rfl, HB8.out⟩
  · have hl2 : 200 < n := by omega
    clear HA HD HP hl
    go_enter Try.func4, Try.ntmps4
    go_wp2
    go_ret
    exact ⟨rfl, Below.refl _ _⟩
end Go.Proofs.Ytldjcogjimgnbaa

/-! LawTwo10 -/
namespace Go.Proofs.Ytldjcogjimgnbaa
open Go.RowKit

theorem inI_of10 {c : Int} (h : I64n c) : inI c = true := decide_eq_true h
set_option maxHeartbeats 4000000 in
theorem walkTwo10 (H2 : CTwoOk) (HA : CAllOk) (HJ : JoinOk) (a b : Int) (w : World) (ha : I64n a) (hb : I64n b) :
    Calls Try.prog 5 #[.int .i64 a, .int .i64 b] w fun e w' => e = .returned (.bool true) ∧ Below w.heap.size w w' := by
  have HW := hid (fun w => lawWakes10 HA w)
  have G1 := hid (fun w => H2 a b w ha hb)
  have G2 := hid (fun v w h => HA v [a, b] w h (by rw [List.all_cons, List.all_cons, inI_of10 ha, inI_of10 hb]; rfl) (by simp))
  rw [comp_two (cl := classS) (fun _ _ h => two_zero h)] at G2
  have G3 := hid (fun w => HJ a b w ha hb)
  have G4 := hid (fun w => ucdPair a b w)
  obtain ⟨J, hJ⟩ : ∃ J, J = joinS a b := ⟨_, rfl⟩
  obtain ⟨P, hP⟩ : ∃ P, P = pairS a b := ⟨_, rfl⟩
  have hR : twoS a b = if J.2 then (J.1, true) else P := by rw [hJ, hP]; rfl
  rw [← hJ] at G3
  rw [← hP] at G4
  rw [hR] at G1 G2
  clear H2 HA HJ hJ hP hR ha hb
  obtain ⟨j, is⟩ := J
  obtain ⟨p, has⟩ := P
  dsimp only at G1 G2 G3 G4
  cases is with
  | true =>
    simp only [if_true] at G1 G2
    go_enter Try.func5, Try.ntmps5
    go_wp2_with (first
      | (have _u := HB5; clear _u; go_at_call 14; refine (HW.out _).mono ?_; rintro e w6 ⟨rfl, hb6⟩; have HB6 := hid (HB5.out.trans (hb6.mono HB5.out.size)); clear hb6)
      | (have _u := HB4; clear _u; go_at_call 11; refine (keepInts v2 _ [j] [j] _ (HO4.out.sl.below (by (repeat (first | exact Below.refl _ _ | exact below_drewN _ | refine Below.drew ?_ | refine Below.alloc ?_ (by simp) _ | refine Below.setCell ?_ (by simp) _ | refine below_drewN' ?_ _)))) (lit_sl (by first | simp | rfl) rfl rfl (by simp))).mono ?_; rw [eqL_self]; rintro e w5 ⟨rfl, n5, hw5⟩; have HB5 := hid (show Below w.heap.size w w5 from by rw [hw5]; exact below_drewN' (HB4.out.alloc HB4.out.size _) n5); clear hw5)
      | (have _u := HB3; clear _u; go_at_call 18; refine (G4.out _).mono ?_; rintro e w4 ⟨rfl, hb4⟩; have HO4 := hid (HO3.out.below hb4); have HB4 := hid (HB3.out.trans (hb4.mono HB3.out.size)); clear hb4)
      | (have _u := HB2; clear _u; go_at_call 17; refine (G3.out _).mono ?_; rintro e w3 ⟨rfl, hb3⟩; have HO3 := hid (HO2.out.below hb3); have HB3 := hid (HB2.out.trans (hb3.mono HB2.out.size)); clear hb3)
      | (have _u := HB1; clear _u; go_at_call 12; refine (G2.out _ _ (lit_sl (by first | simp | rfl) rfl rfl (by simp))).mono ?_; rintro e w2 ⟨v2, rfl, ho2, hb2⟩; have HO2 := hid ho2; have HB2 := hid ((HB1.out.alloc HB1.out.size (.cells #[.int .i64 a, .int .i64 b] 3)).trans (hb2.mono (HB1.out.alloc HB1.out.size (.cells #[.int .i64 a, .int .i64 b] 3)).size)); clear ho2 hb2)
      | (go_at_call 9; refine (G1.out _).mono ?_; rintro e w1 ⟨rfl, hb1⟩; have HB1 := hid hb1; clear hb1))
    go_ret
    exact ⟨rfl, HB6.out⟩
  | false =>
    simp only [Bool.false_eq_true, if_false] at G1 G2
    cases has with
    | true =>
      simp only [if_true] at G2
      go_enter Try.func5, Try.ntmps5
      go_wp2_with (first
        | (have _u := HB5; clear _u; go_at_call 14; refine (HW.out _).mono ?_; rintro e w6 ⟨rfl, hb6⟩; have HB6 := hid (HB5.out.trans (hb6.mono HB5.out.size)); clear hb6)
        | (have _u := HB4; clear _u; go_at_call 11; refine (keepInts v2 _ [p] [p] _ (HO4.out.sl.below (by (repeat (first | exact Below.refl _ _ | exact below_drewN _ | refine Below.drew ?_ | refine Below.alloc ?_ (by simp) _ | refine Below.setCell ?_ (by simp) _ | refine below_drewN' ?_ _)))) (lit_sl (by first | simp | rfl) rfl rfl (by simp))).mono ?_; rw [eqL_self]; rintro e w5 ⟨rfl, n5, hw5⟩; have HB5 := hid (show Below w.heap.size w w5 from by rw [hw5]; exact below_drewN' (HB4.out.alloc HB4.out.size _) n5); clear hw5)
        | (have _u := HB3; clear _u; go_at_call 18; refine (G4.out _).mono ?_; rintro e w4 ⟨rfl, hb4⟩; have HO4 := hid (HO3.out.below hb4); have HB4 := hid (HB3.out.trans (hb4.mono HB3.out.size)); clear hb4)
        | (have _u := HB2; clear _u; go_at_call 17; refine (G3.out _).mono ?_; rintro e w3 ⟨rfl, hb3⟩; have HO3 := hid (HO2.out.below hb3); have HB3 := hid (HB2.out.trans (hb3.mono HB2.out.size)); clear hb3)
        | (have _u := HB1; clear _u; go_at_call 12; refine (G2.out _ _ (lit_sl (by first | simp | rfl) rfl rfl (by simp))).mono ?_; rintro e w2 ⟨v2, rfl, ho2, hb2⟩; have HO2 := hid ho2; have HB2 := hid ((HB1.out.alloc HB1.out.size (.cells #[.int .i64 a, .int .i64 b] 3)).trans (hb2.mono (HB1.out.alloc HB1.out.size (.cells #[.int .i64 a, .int .i64 b] 3)).size)); clear ho2 hb2)
        | (go_at_call 9; refine (G1.out _).mono ?_; rintro e w1 ⟨rfl, hb1⟩; have HB1 := hid hb1; clear hb1))
      go_ret
      exact ⟨rfl, HB6.out⟩
    | false =>
      simp only [Bool.false_eq_true, if_false] at G2
      go_enter Try.func5, Try.ntmps5
      go_wp2_with (first
        | (have _u := HB5; clear _u; go_at_call 14; refine (HW.out _).mono ?_; rintro e w6 ⟨rfl, hb6⟩; have HB6 := hid (HB5.out.trans (hb6.mono HB5.out.size)); clear hb6)
        | (have _u := HB4; clear _u; go_at_call 11; refine (keepInts v2 _ [a, b] [a, b] _ (HO4.out.sl.below (by (repeat (first | exact Below.refl _ _ | exact below_drewN _ | refine Below.drew ?_ | refine Below.alloc ?_ (by simp) _ | refine Below.setCell ?_ (by simp) _ | refine below_drewN' ?_ _)))) (lit_sl (by first | simp | rfl) rfl rfl (by simp))).mono ?_; rw [eqL_self]; rintro e w5 ⟨rfl, n5, hw5⟩; have HB5 := hid (show Below w.heap.size w w5 from by rw [hw5]; exact below_drewN' (HB4.out.alloc HB4.out.size _) n5); clear hw5)
        | (have _u := HB3; clear _u; go_at_call 18; refine (G4.out _).mono ?_; rintro e w4 ⟨rfl, hb4⟩; have HO4 := hid (HO3.out.below hb4); have HB4 := hid (HB3.out.trans (hb4.mono HB3.out.size)); clear hb4)
        | (have _u := HB2; clear _u; go_at_call 17; refine (G3.out _).mono ?_; rintro e w3 ⟨rfl, hb3⟩; have HO3 := hid (HO2.out.below hb3); have HB3 := hid (HB2.out.trans (hb3.mono HB2.out.size)); clear hb3)
        | (have _u := HB1; clear _u; go_at_call 12; refine (G2.out _ _ (lit_sl (by first | simp | rfl) rfl rfl (by simp))).mono ?_; rintro e w2 ⟨v2, rfl, ho2, hb2⟩; have HO2 := hid ho2; have HB2 := hid ((HB1.out.alloc HB1.out.size (.cells #[.int .i64 a, .int .i64 b] 3)).trans (hb2.mono (HB1.out.alloc HB1.out.size (.cells #[.int .i64 a, .int .i64 b] 3)).size)); clear ho2 hb2)
        | (go_at_call 9; refine (G1.out _).mono ?_; rintro e w1 ⟨rfl, hb1⟩; have HB1 := hid hb1; clear hb1))
      go_ret
      exact ⟨rfl, HB6.out⟩
end Go.Proofs.Ytldjcogjimgnbaa

/-! LawOff10 -/
namespace Go.Proofs.Ytldjcogjimgnbaa
open Go.RowKit

theorem ix_rem10 (x m : Int) (h0 : 0 < m) (h1 : m ≤ 1000000) : ∃ K : Nat, wrap64 ((IntKind.u64.wrap x).tmod m) = (K : Int) ∧ (K : Int) < m := by
  obtain ⟨a, b⟩ := ixr x m h0 h1
  exact ⟨(wrap64 ((IntKind.u64.wrap x).tmod m)).toNat, by omega, by omega⟩
theorem ix_rem10' (x : Int) : ∃ K : Nat, IntKind.i64.wrap ((IntKind.u64.wrap x).tmod 8) = (K : Int) ∧ (K : Int) < 8 := by
  obtain ⟨a, b⟩ := ixr' x 8 (by decide)
  refine ⟨((IntKind.u64.wrap x).tmod 8).toNat, ?_, by omega⟩
  rw [IntKind.wrap_i64]
  omega
def letters10 : List Int := [65, 101, 105, 111, 117]
def marks10 : List Int := [768, 769, 776, 790, 803, 808, 837, 824]
theorem letter_zero : ∀ i : Nat, i < 5 → classS (letters10.getD i 0) = 0 := by decide +kernel
theorem mark_off : ∀ i : Nat, i < 8 → classS (marks10.getD i 0) ≠ 0 := by decide +kernel
theorem letter_in : ∀ i : Nat, i < 5 → inI (letters10.getD i 0) = true := by decide +kernel
theorem mark_in : ∀ i : Nat, i < 8 → inI (marks10.getD i 0) = true := by decide +kernel
theorem letter_at (w : World) (i : Nat) (h : i < 5) : ((w.alloc (.cells #[.int .i64 65, .int .i64 101, .int .i64 105, .int .i64 111, .int .i64 117] 3)).alloc (.cells #[.int .i64 768, .int .i64 769, .int .i64 776, .int .i64 790, .int .i64 803, .int .i64 808, .int .i64 837, .int .i64 824] 3)).cell? ⟨w.heap.size, i, none⟩ = some (.int .i64 (letters10.getD i 0)) := by
  have hb : Box 3 (letters10.map (Value.int .i64)) w.heap.size (w.alloc (.cells #[.int .i64 65, .int .i64 101, .int .i64 105, .int .i64 111, .int .i64 117] 3)) := Box.made w 3 _
  have hb2 : Below (w.alloc (.cells #[.int .i64 65, .int .i64 101, .int .i64 105, .int .i64 111, .int .i64 117] 3)).heap.size (w.alloc (.cells #[.int .i64 65, .int .i64 101, .int .i64 105, .int .i64 111, .int .i64 117] 3)) ((w.alloc (.cells #[.int .i64 65, .int .i64 101, .int .i64 105, .int .i64 111, .int .i64 117] 3)).alloc (.cells #[.int .i64 768, .int .i64 769, .int .i64 776, .int .i64 790, .int .i64 803, .int .i64 808, .int .i64 837, .int .i64 824] 3)) := (Below.refl _ _).alloc (Nat.le_refl _) _
  have := (hb.below hb2 hb.lt).cell i
  rw [this, List.getElem?_map, List.getD_eq_getElem?_getD, List.getElem?_eq_getElem (show i < letters10.length from h)]
  rfl
theorem mark_at (w : World) (i : Nat) (h : i < 8) : ((w.alloc (.cells #[.int .i64 65, .int .i64 101, .int .i64 105, .int .i64 111, .int .i64 117] 3)).alloc (.cells #[.int .i64 768, .int .i64 769, .int .i64 776, .int .i64 790, .int .i64 803, .int .i64 808, .int .i64 837, .int .i64 824] 3)).cell? ⟨w.heap.size + 1, i, none⟩ = some (.int .i64 (marks10.getD i 0)) := by
  have hb : Box 3 (marks10.map (Value.int .i64)) (w.alloc (.cells #[.int .i64 65, .int .i64 101, .int .i64 105, .int .i64 111, .int .i64 117] 3)).heap.size ((w.alloc (.cells #[.int .i64 65, .int .i64 101, .int .i64 105, .int .i64 111, .int .i64 117] 3)).alloc (.cells #[.int .i64 768, .int .i64 769, .int .i64 776, .int .i64 790, .int .i64 803, .int .i64 808, .int .i64 837, .int .i64 824] 3)) := Box.made _ 3 _
  rw [World.size_alloc] at hb
  have := hb.cell i
  rw [this, List.getElem?_map, List.getD_eq_getElem?_getD, List.getElem?_eq_getElem (show i < marks10.length from h)]
  rfl
theorem i64_off10 {c : Int} (h : inI c = true) : I64n c := by
  unfold inI at h
  have h2 := of_decide_eq_true h
  exact h2
set_option maxRecDepth 10000 in
set_option maxHeartbeats 4000000 in
theorem walkOff10 (H2 : CTwoOk) (HA : CAllOk) (i k : Int) (w : World) :
    Calls Try.prog 6 #[.int .i64 i, .int .i64 k] w fun e w' => e = .returned (.bool true) ∧ Below w.heap.size w w' := by
  have HW := hid (fun w => lawWakes10 HA w)
  obtain ⟨L, hL, l5⟩ := ix_rem10 i 5 (by decide) (by decide)
  obtain ⟨M, hM, m8⟩ := ix_rem10' ((IntKind.u64.wrap i).tdiv 5)
  obtain ⟨N, hN, n8⟩ := ix_rem10' k
  have hl : L < 5 := by omega
  have hm : M < 8 := by omega
  have hn : N < 8 := by omega
  clear l5 m8 n8
  have d1 := letter_at w L hl
  have d2 := mark_at w M hm
  have d3 := mark_at w N hn
  have HBW := hid (show Below w.heap.size w ((w.alloc (.cells #[.int .i64 65, .int .i64 101, .int .i64 105, .int .i64 111, .int .i64 117] 3)).alloc (.cells #[.int .i64 768, .int .i64 769, .int .i64 776, .int .i64 790, .int .i64 803, .int .i64 808, .int .i64 837, .int .i64 824] 3)) from by (repeat (first | exact Below.refl _ _ | exact below_drewN _ | refine Below.drew ?_ | refine Below.alloc ?_ (by first | omega | (simp; done) | (simp; omega)) _ | refine Below.setCell ?_ (by first | (simp; done) | (simp; omega)) _ | refine below_drewN' ?_ _)))
  have l0 := letter_zero L hl
  have a0 := mark_off M hm
  have li := letter_in L hl
  have ai := mark_in M hm
  have bi := mark_in N hn
  generalize letters10.getD L 0 = l at d1 l0 li
  generalize marks10.getD M 0 = a at d2 a0 ai
  generalize marks10.getD N 0 = b at d3 bi
  have G1 := hid (fun w => H2 l a w (i64_off10 li) (i64_off10 ai))
  have G2 := hid (fun w => H2 l b w (i64_off10 li) (i64_off10 bi))
  have G3 := hid (fun (h : (twoS l a).2 = true) w => H2 (twoS l a).1 b w (i64_off10 (two_inI h)) (i64_off10 bi))
  have G4 := hid (fun v w h => HA v [l, a, b] w h (by rw [List.all_cons, List.all_cons, List.all_cons, li, ai, bi]; rfl) (by simp))
  rw [comp_three (cl := classS) l0 a0] at G4
  have G5 := hid (fun w => ucdClass a w)
  have G6 := hid (fun w => ucdClass b w)
  clear H2 HA l0 a0 li ai bi
  generalize classS a = ca at G4 G5
  generalize classS b = cb at G4 G6
  generalize hR1 : twoS l a = R1 at G1 G3 G4
  generalize twoS l b = R2 at G2 G4
  obtain ⟨f, ok⟩ := R1
  obtain ⟨g, is⟩ := R2
  dsimp only at G1 G2 G3 G4
  clear hR1
  cases ok with
  | true =>
    simp only [if_true] at G4
    replace G3 := hid (fun w => G3.out rfl w)
    generalize twoS f b = R3 at G3 G4
    obtain ⟨c, more⟩ := R3
    dsimp only at G3 G4
    cases more with
    | true =>
      simp only [if_true] at G4
      go_enter Try.func6, Try.ntmps6
      go_wp2_with (fail)
      go_quiet (fail)
      go_wp2_with (first
        | (have _u := HB8; clear _u; go_at_call 14; refine (HW.out _).mono ?_; rintro e w9 ⟨rfl, hb9⟩; have HB9 := hid (HB8.out.trans (hb9.mono HB8.out.size)); clear hb9)
        | (have _u := HB7; clear _u; go_at_call 11; refine (keepInts v4 _ [c] [c] _ (HO7.out.sl.below (by (repeat (first | exact Below.refl _ _ | exact below_drewN _ | refine Below.drew ?_ | refine Below.alloc ?_ (by simp) _ | refine Below.setCell ?_ (by simp) _ | refine below_drewN' ?_ _)))) (lit_sl (by first | simp | rfl) rfl rfl (by simp))).mono ?_; rw [eqL_self]; rintro e w8 ⟨rfl, n8, hw8⟩; have HB8 := hid (show Below w.heap.size w w8 from by rw [hw8]; exact below_drewN' (HB7.out.alloc HB7.out.size _) n8); clear hw8)
        | (have _u := HB6; clear _u; go_at_call 9; with_reducible refine (G3.out _).mono ?_; rintro e w7 ⟨rfl, hb7⟩; have HO7 := hid (HO6.out.below hb7); have HB7 := hid (HB6.out.trans (hb7.mono HB6.out.size)); clear hb7)
        | (have _u := HB5; clear _u; go_at_call 19; with_reducible refine (G6.out _).mono ?_; rintro e w6 ⟨rfl, hb6⟩; have HO6 := hid (HO5.out.below hb6); have HB6 := hid (HB5.out.trans (hb6.mono HB5.out.size)); clear hb6)
        | (have _u := HB4; clear _u; go_at_call 19; with_reducible refine (G5.out _).mono ?_; rintro e w5 ⟨rfl, hb5⟩; have HO5 := hid (HO4.out.below hb5); have HB5 := hid (HB4.out.trans (hb5.mono HB4.out.size)); clear hb5)
        | (have _u := HB3; clear _u; go_at_call 12; refine (G4.out _ _ (lit_sl (by first | simp | rfl) rfl rfl (by simp))).mono ?_; rintro e w4 ⟨v4, rfl, ho4, hb4⟩; have HO4 := hid ho4; have HB4 := hid ((HB3.out.alloc HB3.out.size (.cells #[.int .i64 l, .int .i64 a, .int .i64 b] 3)).trans (hb4.mono (HB3.out.alloc HB3.out.size (.cells #[.int .i64 l, .int .i64 a, .int .i64 b] 3)).size)); clear ho4 hb4)
        | (have _u := HB2; clear _u; go_at_call 9; with_reducible refine (G2.out _).mono ?_; rintro e w3 ⟨rfl, hb3⟩; have HB3 := hid (HB2.out.trans (hb3.mono HB2.out.size)); clear hb3)
        | (go_at_call 9; with_reducible refine (G1.out _).mono ?_; rintro e w2 ⟨rfl, hb2⟩; have HB2 := hid ((below_drewN' HBW.out nq).trans (hb2.mono (below_drewN' HBW.out nq).size)); clear hb2))
      go_ret
      exact ⟨rfl, HB9.out⟩
    | false =>
      simp only [Bool.false_eq_true, if_false] at G4
      go_enter Try.func6, Try.ntmps6
      go_wp2_with (fail)
      go_quiet (fail)
      go_wp2_with (first
        | (have _u := HB8; clear _u; go_at_call 14; refine (HW.out _).mono ?_; rintro e w9 ⟨rfl, hb9⟩; have HB9 := hid (HB8.out.trans (hb9.mono HB8.out.size)); clear hb9)
        | (have _u := HB7; clear _u; go_at_call 11; refine (keepInts v4 _ [f, b] [f, b] _ (HO7.out.sl.below (by (repeat (first | exact Below.refl _ _ | exact below_drewN _ | refine Below.drew ?_ | refine Below.alloc ?_ (by simp) _ | refine Below.setCell ?_ (by simp) _ | refine below_drewN' ?_ _)))) (lit_sl (by first | simp | rfl) rfl rfl (by simp))).mono ?_; rw [eqL_self]; rintro e w8 ⟨rfl, n8, hw8⟩; have HB8 := hid (show Below w.heap.size w w8 from by rw [hw8]; exact below_drewN' (HB7.out.alloc HB7.out.size _) n8); clear hw8)
        | (have _u := HB6; clear _u; go_at_call 9; with_reducible refine (G3.out _).mono ?_; rintro e w7 ⟨rfl, hb7⟩; have HO7 := hid (HO6.out.below hb7); have HB7 := hid (HB6.out.trans (hb7.mono HB6.out.size)); clear hb7)
        | (have _u := HB5; clear _u; go_at_call 19; with_reducible refine (G6.out _).mono ?_; rintro e w6 ⟨rfl, hb6⟩; have HO6 := hid (HO5.out.below hb6); have HB6 := hid (HB5.out.trans (hb6.mono HB5.out.size)); clear hb6)
        | (have _u := HB4; clear _u; go_at_call 19; with_reducible refine (G5.out _).mono ?_; rintro e w5 ⟨rfl, hb5⟩; have HO5 := hid (HO4.out.below hb5); have HB5 := hid (HB4.out.trans (hb5.mono HB4.out.size)); clear hb5)
        | (have _u := HB3; clear _u; go_at_call 12; refine (G4.out _ _ (lit_sl (by first | simp | rfl) rfl rfl (by simp))).mono ?_; rintro e w4 ⟨v4, rfl, ho4, hb4⟩; have HO4 := hid ho4; have HB4 := hid ((HB3.out.alloc HB3.out.size (.cells #[.int .i64 l, .int .i64 a, .int .i64 b] 3)).trans (hb4.mono (HB3.out.alloc HB3.out.size (.cells #[.int .i64 l, .int .i64 a, .int .i64 b] 3)).size)); clear ho4 hb4)
        | (have _u := HB2; clear _u; go_at_call 9; with_reducible refine (G2.out _).mono ?_; rintro e w3 ⟨rfl, hb3⟩; have HB3 := hid (HB2.out.trans (hb3.mono HB2.out.size)); clear hb3)
        | (go_at_call 9; with_reducible refine (G1.out _).mono ?_; rintro e w2 ⟨rfl, hb2⟩; have HB2 := hid ((below_drewN' HBW.out nq).trans (hb2.mono (below_drewN' HBW.out nq).size)); clear hb2))
      go_ret
      exact ⟨rfl, HB9.out⟩
  | false =>
    simp only [Bool.false_eq_true, if_false] at G4
    clear G3
    by_cases hab : cb ≤ ca
    · have hx : decide (cb ≤ ca) = true := decide_eq_true hab
      rw [hx] at G4
      cases is with
      | true =>
        simp only [Bool.not_true, Bool.and_false, Bool.false_eq_true, if_false] at G4
        go_enter Try.func6, Try.ntmps6
        go_wp2_with (fail)
        go_quiet (fail)
        go_wp2_with (first
          | (have _u := HB8; clear _u; go_at_call 14; refine (HW.out _).mono ?_; rintro e w9 ⟨rfl, hb9⟩; have HB9 := hid (HB8.out.trans (hb9.mono HB8.out.size)); clear hb9)
          | (have _u := HB6; clear _u; go_at_call 11; refine (keepInts v4 _ [l, a, b] [l, a, b] _ (HO6.out.sl.below (by (repeat (first | exact Below.refl _ _ | exact below_drewN _ | refine Below.drew ?_ | refine Below.alloc ?_ (by simp) _ | refine Below.setCell ?_ (by simp) _ | refine below_drewN' ?_ _)))) (lit_sl (by first | simp | rfl) rfl rfl (by simp))).mono ?_; rw [eqL_self]; rintro e w8 ⟨rfl, n8, hw8⟩; have HB8 := hid (show Below w.heap.size w w8 from by rw [hw8]; exact below_drewN' (HB6.out.alloc HB6.out.size _) n8); clear hw8)
          | (have _u := HB5; clear _u; go_at_call 19; with_reducible refine (G6.out _).mono ?_; rintro e w6 ⟨rfl, hb6⟩; have HO6 := hid (HO5.out.below hb6); have HB6 := hid (HB5.out.trans (hb6.mono HB5.out.size)); clear hb6)
          | (have _u := HB4; clear _u; go_at_call 19; with_reducible refine (G5.out _).mono ?_; rintro e w5 ⟨rfl, hb5⟩; have HO5 := hid (HO4.out.below hb5); have HB5 := hid (HB4.out.trans (hb5.mono HB4.out.size)); clear hb5)
          | (have _u := HB3; clear _u; go_at_call 12; refine (G4.out _ _ (lit_sl (by first | simp | rfl) rfl rfl (by simp))).mono ?_; rintro e w4 ⟨v4, rfl, ho4, hb4⟩; have HO4 := hid ho4; have HB4 := hid ((HB3.out.alloc HB3.out.size (.cells #[.int .i64 l, .int .i64 a, .int .i64 b] 3)).trans (hb4.mono (HB3.out.alloc HB3.out.size (.cells #[.int .i64 l, .int .i64 a, .int .i64 b] 3)).size)); clear ho4 hb4)
          | (have _u := HB2; clear _u; go_at_call 9; with_reducible refine (G2.out _).mono ?_; rintro e w3 ⟨rfl, hb3⟩; have HB3 := hid (HB2.out.trans (hb3.mono HB2.out.size)); clear hb3)
          | (go_at_call 9; with_reducible refine (G1.out _).mono ?_; rintro e w2 ⟨rfl, hb2⟩; have HB2 := hid ((below_drewN' HBW.out nq).trans (hb2.mono (below_drewN' HBW.out nq).size)); clear hb2))
        go_ret
        exact ⟨rfl, HB9.out⟩
      | false =>
        simp only [Bool.not_true, Bool.and_false, Bool.false_eq_true, if_false] at G4
        go_enter Try.func6, Try.ntmps6
        go_wp2_with (fail)
        go_quiet (fail)
        go_wp2_with (first
          | (have _u := HB8; clear _u; go_at_call 14; refine (HW.out _).mono ?_; rintro e w9 ⟨rfl, hb9⟩; have HB9 := hid (HB8.out.trans (hb9.mono HB8.out.size)); clear hb9)
          | (have _u := HB6; clear _u; go_at_call 11; refine (keepInts v4 _ [l, a, b] [l, a, b] _ (HO6.out.sl.below (by (repeat (first | exact Below.refl _ _ | exact below_drewN _ | refine Below.drew ?_ | refine Below.alloc ?_ (by simp) _ | refine Below.setCell ?_ (by simp) _ | refine below_drewN' ?_ _)))) (lit_sl (by first | simp | rfl) rfl rfl (by simp))).mono ?_; rw [eqL_self]; rintro e w8 ⟨rfl, n8, hw8⟩; have HB8 := hid (show Below w.heap.size w w8 from by rw [hw8]; exact below_drewN' (HB6.out.alloc HB6.out.size _) n8); clear hw8)
          | (have _u := HB5; clear _u; go_at_call 19; with_reducible refine (G6.out _).mono ?_; rintro e w6 ⟨rfl, hb6⟩; have HO6 := hid (HO5.out.below hb6); have HB6 := hid (HB5.out.trans (hb6.mono HB5.out.size)); clear hb6)
          | (have _u := HB4; clear _u; go_at_call 19; with_reducible refine (G5.out _).mono ?_; rintro e w5 ⟨rfl, hb5⟩; have HO5 := hid (HO4.out.below hb5); have HB5 := hid (HB4.out.trans (hb5.mono HB4.out.size)); clear hb5)
          | (have _u := HB3; clear _u; go_at_call 12; refine (G4.out _ _ (lit_sl (by first | simp | rfl) rfl rfl (by simp))).mono ?_; rintro e w4 ⟨v4, rfl, ho4, hb4⟩; have HO4 := hid ho4; have HB4 := hid ((HB3.out.alloc HB3.out.size (.cells #[.int .i64 l, .int .i64 a, .int .i64 b] 3)).trans (hb4.mono (HB3.out.alloc HB3.out.size (.cells #[.int .i64 l, .int .i64 a, .int .i64 b] 3)).size)); clear ho4 hb4)
          | (have _u := HB2; clear _u; go_at_call 9; with_reducible refine (G2.out _).mono ?_; rintro e w3 ⟨rfl, hb3⟩; have HB3 := hid (HB2.out.trans (hb3.mono HB2.out.size)); clear hb3)
          | (go_at_call 9; with_reducible refine (G1.out _).mono ?_; rintro e w2 ⟨rfl, hb2⟩; have HB2 := hid ((below_drewN' HBW.out nq).trans (hb2.mono (below_drewN' HBW.out nq).size)); clear hb2))
        go_ret
        exact ⟨rfl, HB9.out⟩
    · have hx : decide (cb ≤ ca) = false := decide_eq_false hab
      rw [hx] at G4
      cases is with
      | true =>
        simp only [Bool.not_false, Bool.and_true, if_true] at G4
        go_enter Try.func6, Try.ntmps6
        go_wp2_with (fail)
        go_quiet (fail)
        go_wp2_with (first
          | (have _u := HB8; clear _u; go_at_call 14; refine (HW.out _).mono ?_; rintro e w9 ⟨rfl, hb9⟩; have HB9 := hid (HB8.out.trans (hb9.mono HB8.out.size)); clear hb9)
          | (have _u := HB6; clear _u; go_at_call 11; refine (keepInts v4 _ [g, a] [g, a] _ (HO6.out.sl.below (by (repeat (first | exact Below.refl _ _ | exact below_drewN _ | refine Below.drew ?_ | refine Below.alloc ?_ (by simp) _ | refine Below.setCell ?_ (by simp) _ | refine below_drewN' ?_ _)))) (lit_sl (by first | simp | rfl) rfl rfl (by simp))).mono ?_; rw [eqL_self]; rintro e w8 ⟨rfl, n8, hw8⟩; have HB8 := hid (show Below w.heap.size w w8 from by rw [hw8]; exact below_drewN' (HB6.out.alloc HB6.out.size _) n8); clear hw8)
          | (have _u := HB5; clear _u; go_at_call 19; with_reducible refine (G6.out _).mono ?_; rintro e w6 ⟨rfl, hb6⟩; have HO6 := hid (HO5.out.below hb6); have HB6 := hid (HB5.out.trans (hb6.mono HB5.out.size)); clear hb6)
          | (have _u := HB4; clear _u; go_at_call 19; with_reducible refine (G5.out _).mono ?_; rintro e w5 ⟨rfl, hb5⟩; have HO5 := hid (HO4.out.below hb5); have HB5 := hid (HB4.out.trans (hb5.mono HB4.out.size)); clear hb5)
          | (have _u := HB3; clear _u; go_at_call 12; refine (G4.out _ _ (lit_sl (by first | simp | rfl) rfl rfl (by simp))).mono ?_; rintro e w4 ⟨v4, rfl, ho4, hb4⟩; have HO4 := hid ho4; have HB4 := hid ((HB3.out.alloc HB3.out.size (.cells #[.int .i64 l, .int .i64 a, .int .i64 b] 3)).trans (hb4.mono (HB3.out.alloc HB3.out.size (.cells #[.int .i64 l, .int .i64 a, .int .i64 b] 3)).size)); clear ho4 hb4)
          | (have _u := HB2; clear _u; go_at_call 9; with_reducible refine (G2.out _).mono ?_; rintro e w3 ⟨rfl, hb3⟩; have HB3 := hid (HB2.out.trans (hb3.mono HB2.out.size)); clear hb3)
          | (go_at_call 9; with_reducible refine (G1.out _).mono ?_; rintro e w2 ⟨rfl, hb2⟩; have HB2 := hid ((below_drewN' HBW.out nq).trans (hb2.mono (below_drewN' HBW.out nq).size)); clear hb2))
        go_ret
        exact ⟨rfl, HB9.out⟩
      | false =>
        simp only [Bool.not_false, Bool.and_true, Bool.false_eq_true, if_false] at G4
        go_enter Try.func6, Try.ntmps6
        go_wp2_with (fail)
        go_quiet (fail)
        go_wp2_with (first
          | (have _u := HB8; clear _u; go_at_call 14; refine (HW.out _).mono ?_; rintro e w9 ⟨rfl, hb9⟩; have HB9 := hid (HB8.out.trans (hb9.mono HB8.out.size)); clear hb9)
          | (have _u := HB6; clear _u; go_at_call 11; refine (keepInts v4 _ [l, a, b] [l, a, b] _ (HO6.out.sl.below (by (repeat (first | exact Below.refl _ _ | exact below_drewN _ | refine Below.drew ?_ | refine Below.alloc ?_ (by simp) _ | refine Below.setCell ?_ (by simp) _ | refine below_drewN' ?_ _)))) (lit_sl (by first | simp | rfl) rfl rfl (by simp))).mono ?_; rw [eqL_self]; rintro e w8 ⟨rfl, n8, hw8⟩; have HB8 := hid (show Below w.heap.size w w8 from by rw [hw8]; exact below_drewN' (HB6.out.alloc HB6.out.size _) n8); clear hw8)
          | (have _u := HB5; clear _u; go_at_call 19; with_reducible refine (G6.out _).mono ?_; rintro e w6 ⟨rfl, hb6⟩; have HO6 := hid (HO5.out.below hb6); have HB6 := hid (HB5.out.trans (hb6.mono HB5.out.size)); clear hb6)
          | (have _u := HB4; clear _u; go_at_call 19; with_reducible refine (G5.out _).mono ?_; rintro e w5 ⟨rfl, hb5⟩; have HO5 := hid (HO4.out.below hb5); have HB5 := hid (HB4.out.trans (hb5.mono HB4.out.size)); clear hb5)
          | (have _u := HB3; clear _u; go_at_call 12; refine (G4.out _ _ (lit_sl (by first | simp | rfl) rfl rfl (by simp))).mono ?_; rintro e w4 ⟨v4, rfl, ho4, hb4⟩; have HO4 := hid ho4; have HB4 := hid ((HB3.out.alloc HB3.out.size (.cells #[.int .i64 l, .int .i64 a, .int .i64 b] 3)).trans (hb4.mono (HB3.out.alloc HB3.out.size (.cells #[.int .i64 l, .int .i64 a, .int .i64 b] 3)).size)); clear ho4 hb4)
          | (have _u := HB2; clear _u; go_at_call 9; with_reducible refine (G2.out _).mono ?_; rintro e w3 ⟨rfl, hb3⟩; have HB3 := hid (HB2.out.trans (hb3.mono HB2.out.size)); clear hb3)
          | (go_at_call 9; with_reducible refine (G1.out _).mono ?_; rintro e w2 ⟨rfl, hb2⟩; have HB2 := hid ((below_drewN' HBW.out nq).trans (hb2.mono (below_drewN' HBW.out nq).size)); clear hb2))
        go_ret
        exact ⟨rfl, HB9.out⟩
end Go.Proofs.Ytldjcogjimgnbaa
