/- Walk of law14's WideEdges, out of what is asked of package wide. -/
import Derived.Test.YtcbijgmlmcpidaaWideOk
import Derived.Test.YtcbijgmlmcpidaaRepNum
namespace Go.Proofs.Ytcbijgmlmcpidaa
open Go.RowKit
theorem rep_next14 (n : Nat) : List.replicate n (65 : Int) ++ [65] = List.replicate (n + 1) 65 := (List.replicate_succ').symm
theorem rep_inI (n : Nat) : (List.replicate n (65 : Int)).all inI = true := List.all_eq_true.2 fun x hx => by rw [(List.mem_replicate.1 hx).2]; decide
theorem wput_all (n : Nat) : ∃ x, wputB true (List.replicate n 65) = .inl x := putG_of_all fun c hc => by rw [(List.mem_replicate.1 hc).2]; decide +kernel
theorem wput_rep {f : Bool} {c : Int} (h : wok f c = false) {n : Nat} : wputB f (List.replicate n 65 ++ [c]) = .inr n := by
  obtain ⟨x, hx⟩ : ∃ x, putG (wok f) (wenc f) (List.replicate n 65) = .inl x := putG_of_all fun c hc => by rw [(List.mem_replicate.1 hc).2]; cases f <;> decide +kernel
  unfold wputB
  rw [putG_app, hx, putG_none h]
  simp

set_option maxRecDepth 10000 in
set_option maxHeartbeats 4000000 in
theorem walkEdges14_0 (HP : WPutOk) (HG : WGetOk) (how : Int) (N : Nat) (n0 : Int) (w : World) (hK : (IntKind.u64.wrap how).tmod 4 = 0) (hn0 : wrap64 ((IntKind.u64.wrap n0).tmod 50) = (N : Int)) (hN : N < 50) :
    Calls Try.prog 5 #[.int .i64 n0, .int .i64 how] w fun e w' => e = .returned (.bool true) ∧ Below w.heap.size w w' := by
  have HW := hid (fun w => lawWakes14 HP HG w)
  have G1 := hid (fun v w h => HP v (List.replicate N 65 ++ [65536]) 2 w h (by rw [List.all_append, rep_inI]; decide) (by rw [List.length_append, List.length_replicate]; simp; omega))
  rw [show wput 2 (List.replicate N 65 ++ [65536]) = res3 14 (wputB false (List.replicate N 65 ++ [65536])) from rfl, wput_rep (show wok false 65536 = false by decide +kernel)] at G1
  simp only [res3, outAt, outE, outL] at G1
  have G8 := hid (fun v w h => HP v [65535] 2 w h (by decide) (by decide))
  rw [show wput 2 [65535] = ([255, 255], 0, 0) by decide +kernel] at G8
  have G9 := hid (fun v w h => HP v [1114111] 4 w h (by decide) (by decide))
  rw [show wput 4 [1114111] = ([0, 16, 255, 255], 0, 0) by decide +kernel] at G9
  clear HP HG
  go_enter Try.func5, Try.ntmps5
  go_wp2
  go_loopw [5] (fun bv wr => ∃ (j : Nat) (a : Option Addr) (c : Nat), j ≤ N ∧ bv = .slice a j c ∧ Hid (Own .i64 3 w.heap.size wr bv (List.replicate j 65)) ∧ Hid (Below w.heap.size w wr)) (fun bv _ => N - lenV bv)
  case atStart => exact ⟨0, none, 0, Nat.zero_le _, rfl, Own.nil _ _ _ _, Below.refl _ _⟩
  case round =>
    obtain ⟨j, a, c, hj, rfl, hown, hbel⟩ := hrel
    by_cases hlt : j < N
    · go_wp2_with (at_builtin; go_loud (refine wpList_app _ rfl _ _ 22 rfl .i64 w.heap.size 3 8 Try.underlying22 Try.infoI64 _ (List.replicate j 65) [65] rfl (hown.out.alloc _) _ rfl (one_sl (by first | simp | rfl)) (by unfold maxLen; simp; omega) (by simp; omega) (by have := hbel.out.size; simp; omega) ?_); intro v5 w5 ho5 hg5 hb5 hn5; clear hg5 hn5; rw [rep_next14] at ho5; obtain ⟨a5, c5, hv5⟩ := ho5.sl.form; rw [List.length_replicate] at hv5; subst hv5)
      go_roundw
      case rel => exact ⟨j + 1, a5, c5, by omega, rfl, ho5, (hbel.out.alloc hbel.out.size _).trans hb5⟩
      case measure => simp only [lenV]; omega
    · obtain rfl : j = N := by omega
      go_wp2_with (first
          | (have _u := HB4; clear _u; go_at_call 13; refine (HW.out _).mono ?_; rintro e w5 ⟨rfl, hb5⟩; have HB5 := hid (HB4.out.trans (hb5.mono HB4.out.size)); clear hb5)
          | (have _u := HB3; clear _u; go_at_call 7; go_loud (refine (G9.out _ _ (lit_sl (by first | simp | rfl) rfl rfl (by simp))).mono ?_); rintro e w4 ⟨v4, rfl, ho4, hb4⟩; replace hb4 := ((Below.refl w3.heap.size w3).alloc (Nat.le_refl _) _).trans (hb4.mono (by first | (simp; done) | (simp; omega))); obtain ⟨a4, c4, hv4⟩ := ho4.sl.form; simp only [List.length_cons, List.length_nil] at hv4; subst hv4; have HB4 := hid (HB3.out.trans (hb4.mono HB3.out.size)); clear hb4 ho4)
          | (have _u := HB2; clear _u; go_at_call 7; go_loud (refine (G8.out _ _ (lit_sl (by first | simp | rfl) rfl rfl (by simp))).mono ?_); rintro e w3 ⟨v3, rfl, ho3, hb3⟩; replace hb3 := ((Below.refl w2.heap.size w2).alloc (Nat.le_refl _) _).trans (hb3.mono (by first | (simp; done) | (simp; omega))); obtain ⟨a3, c3, hv3⟩ := ho3.sl.form; simp only [List.length_cons, List.length_nil] at hv3; subst hv3; have HB3 := hid (HB2.out.trans (hb3.mono HB2.out.size)); clear hb3 ho3)
          | (have _u := HB1; clear _u; go_at_call 7; go_loud (refine (G1.out _ _ HO1.out).mono ?_); rintro e w2 ⟨v2, rfl, ho2, hb2⟩; have HB2 := hid (HB1.out.trans (hb2.mono HB1.out.size)); clear hb2 ho2)
          | (at_builtin; go_loud (refine wpList_app _ rfl _ _ 22 rfl .i64 w.heap.size 3 8 Try.underlying22 Try.infoI64 _ (List.replicate j 65) [65536] rfl (hown.out.alloc _) _ rfl (one_sl (by first | simp | rfl)) (by unfold maxLen; simp; omega) (by simp; omega) (by have := hbel.out.size; simp; omega) ?_); intro v1 w1 ho1 hg1 hb1 hn1; clear hg1 hn1; have HO1 := hid ho1.sl; have HB1 := hid ((hbel.out.alloc hbel.out.size _).trans hb1); clear hb1 ho1))
      go_ret
      exact ⟨rfl, HB5.out⟩

set_option maxRecDepth 10000 in
set_option maxHeartbeats 4000000 in
theorem walkEdges14_1 (HP : WPutOk) (HG : WGetOk) (how : Int) (N : Nat) (n0 : Int) (w : World) (hK : (IntKind.u64.wrap how).tmod 4 = 1) (hn0 : wrap64 ((IntKind.u64.wrap n0).tmod 50) = (N : Int)) (hN : N < 50) :
    Calls Try.prog 5 #[.int .i64 n0, .int .i64 how] w fun e w' => e = .returned (.bool true) ∧ Below w.heap.size w w' := by
  have HW := hid (fun w => lawWakes14 HP HG w)
  have G1 := hid (fun v w h => HP v (List.replicate N 65 ++ [1114112]) 4 w h (by rw [List.all_append, rep_inI]; decide) (by rw [List.length_append, List.length_replicate]; simp; omega))
  rw [show wput 4 (List.replicate N 65 ++ [1114112]) = res3 14 (wputB true (List.replicate N 65 ++ [1114112])) from rfl, wput_rep (show wok true 1114112 = false by decide +kernel)] at G1
  simp only [res3, outAt, outE, outL] at G1
  have G8 := hid (fun v w h => HP v [65535] 2 w h (by decide) (by decide))
  rw [show wput 2 [65535] = ([255, 255], 0, 0) by decide +kernel] at G8
  have G9 := hid (fun v w h => HP v [1114111] 4 w h (by decide) (by decide))
  rw [show wput 4 [1114111] = ([0, 16, 255, 255], 0, 0) by decide +kernel] at G9
  clear HP HG
  go_enter Try.func5, Try.ntmps5
  go_wp2
  go_loopw [5] (fun bv wr => ∃ (j : Nat) (a : Option Addr) (c : Nat), j ≤ N ∧ bv = .slice a j c ∧ Hid (Own .i64 3 w.heap.size wr bv (List.replicate j 65)) ∧ Hid (Below w.heap.size w wr)) (fun bv _ => N - lenV bv)
  case atStart => exact ⟨0, none, 0, Nat.zero_le _, rfl, Own.nil _ _ _ _, Below.refl _ _⟩
  case round =>
    obtain ⟨j, a, c, hj, rfl, hown, hbel⟩ := hrel
    by_cases hlt : j < N
    · go_wp2_with (at_builtin; go_loud (refine wpList_app _ rfl _ _ 22 rfl .i64 w.heap.size 3 8 Try.underlying22 Try.infoI64 _ (List.replicate j 65) [65] rfl (hown.out.alloc _) _ rfl (one_sl (by first | simp | rfl)) (by unfold maxLen; simp; omega) (by simp; omega) (by have := hbel.out.size; simp; omega) ?_); intro v5 w5 ho5 hg5 hb5 hn5; clear hg5 hn5; rw [rep_next14] at ho5; obtain ⟨a5, c5, hv5⟩ := ho5.sl.form; rw [List.length_replicate] at hv5; subst hv5)
      go_roundw
      case rel => exact ⟨j + 1, a5, c5, by omega, rfl, ho5, (hbel.out.alloc hbel.out.size _).trans hb5⟩
      case measure => simp only [lenV]; omega
    · obtain rfl : j = N := by omega
      go_wp2_with (first
          | (have _u := HB4; clear _u; go_at_call 13; refine (HW.out _).mono ?_; rintro e w5 ⟨rfl, hb5⟩; have HB5 := hid (HB4.out.trans (hb5.mono HB4.out.size)); clear hb5)
          | (have _u := HB3; clear _u; go_at_call 7; go_loud (refine (G9.out _ _ (lit_sl (by first | simp | rfl) rfl rfl (by simp))).mono ?_); rintro e w4 ⟨v4, rfl, ho4, hb4⟩; replace hb4 := ((Below.refl w3.heap.size w3).alloc (Nat.le_refl _) _).trans (hb4.mono (by first | (simp; done) | (simp; omega))); obtain ⟨a4, c4, hv4⟩ := ho4.sl.form; simp only [List.length_cons, List.length_nil] at hv4; subst hv4; have HB4 := hid (HB3.out.trans (hb4.mono HB3.out.size)); clear hb4 ho4)
          | (have _u := HB2; clear _u; go_at_call 7; go_loud (refine (G8.out _ _ (lit_sl (by first | simp | rfl) rfl rfl (by simp))).mono ?_); rintro e w3 ⟨v3, rfl, ho3, hb3⟩; replace hb3 := ((Below.refl w2.heap.size w2).alloc (Nat.le_refl _) _).trans (hb3.mono (by first | (simp; done) | (simp; omega))); obtain ⟨a3, c3, hv3⟩ := ho3.sl.form; simp only [List.length_cons, List.length_nil] at hv3; subst hv3; have HB3 := hid (HB2.out.trans (hb3.mono HB2.out.size)); clear hb3 ho3)
          | (have _u := HB1; clear _u; go_at_call 7; go_loud (refine (G1.out _ _ HO1.out).mono ?_); rintro e w2 ⟨v2, rfl, ho2, hb2⟩; have HB2 := hid (HB1.out.trans (hb2.mono HB1.out.size)); clear hb2 ho2)
          | (at_builtin; go_loud (refine wpList_app _ rfl _ _ 22 rfl .i64 w.heap.size 3 8 Try.underlying22 Try.infoI64 _ (List.replicate j 65) [1114112] rfl (hown.out.alloc _) _ rfl (one_sl (by first | simp | rfl)) (by unfold maxLen; simp; omega) (by simp; omega) (by have := hbel.out.size; simp; omega) ?_); intro v1 w1 ho1 hg1 hb1 hn1; clear hg1 hn1; have HO1 := hid ho1.sl; have HB1 := hid ((hbel.out.alloc hbel.out.size _).trans hb1); clear hb1 ho1))
      go_ret
      exact ⟨rfl, HB5.out⟩

set_option maxRecDepth 10000 in
set_option maxHeartbeats 4000000 in
theorem walkEdges14_2 (HP : WPutOk) (HG : WGetOk) (how : Int) (N : Nat) (n0 : Int) (w : World) (hK : (IntKind.u64.wrap how).tmod 4 = 2) (hn0 : wrap64 ((IntKind.u64.wrap n0).tmod 50) = (N : Int)) (hN : N < 50) :
    Calls Try.prog 5 #[.int .i64 n0, .int .i64 how] w fun e w' => e = .returned (.bool true) ∧ Below w.heap.size w w' := by
  have HW := hid (fun w => lawWakes14 HP HG w)
  have G1 := hid (fun v w h => HP v (List.replicate N 65 ++ [56320]) 4 w h (by rw [List.all_append, rep_inI]; decide) (by rw [List.length_append, List.length_replicate]; simp; omega))
  rw [show wput 4 (List.replicate N 65 ++ [56320]) = res3 14 (wputB true (List.replicate N 65 ++ [56320])) from rfl, wput_rep (show wok true 56320 = false by decide +kernel)] at G1
  simp only [res3, outAt, outE, outL] at G1
  have G8 := hid (fun v w h => HP v [65535] 2 w h (by decide) (by decide))
  rw [show wput 2 [65535] = ([255, 255], 0, 0) by decide +kernel] at G8
  have G9 := hid (fun v w h => HP v [1114111] 4 w h (by decide) (by decide))
  rw [show wput 4 [1114111] = ([0, 16, 255, 255], 0, 0) by decide +kernel] at G9
  clear HP HG
  go_enter Try.func5, Try.ntmps5
  go_wp2
  go_loopw [5] (fun bv wr => ∃ (j : Nat) (a : Option Addr) (c : Nat), j ≤ N ∧ bv = .slice a j c ∧ Hid (Own .i64 3 w.heap.size wr bv (List.replicate j 65)) ∧ Hid (Below w.heap.size w wr)) (fun bv _ => N - lenV bv)
  case atStart => exact ⟨0, none, 0, Nat.zero_le _, rfl, Own.nil _ _ _ _, Below.refl _ _⟩
  case round =>
    obtain ⟨j, a, c, hj, rfl, hown, hbel⟩ := hrel
    by_cases hlt : j < N
    · go_wp2_with (at_builtin; go_loud (refine wpList_app _ rfl _ _ 22 rfl .i64 w.heap.size 3 8 Try.underlying22 Try.infoI64 _ (List.replicate j 65) [65] rfl (hown.out.alloc _) _ rfl (one_sl (by first | simp | rfl)) (by unfold maxLen; simp; omega) (by simp; omega) (by have := hbel.out.size; simp; omega) ?_); intro v5 w5 ho5 hg5 hb5 hn5; clear hg5 hn5; rw [rep_next14] at ho5; obtain ⟨a5, c5, hv5⟩ := ho5.sl.form; rw [List.length_replicate] at hv5; subst hv5)
      go_roundw
      case rel => exact ⟨j + 1, a5, c5, by omega, rfl, ho5, (hbel.out.alloc hbel.out.size _).trans hb5⟩
      case measure => simp only [lenV]; omega
    · obtain rfl : j = N := by omega
      go_wp2_with (first
          | (have _u := HB4; clear _u; go_at_call 13; refine (HW.out _).mono ?_; rintro e w5 ⟨rfl, hb5⟩; have HB5 := hid (HB4.out.trans (hb5.mono HB4.out.size)); clear hb5)
          | (have _u := HB3; clear _u; go_at_call 7; go_loud (refine (G9.out _ _ (lit_sl (by first | simp | rfl) rfl rfl (by simp))).mono ?_); rintro e w4 ⟨v4, rfl, ho4, hb4⟩; replace hb4 := ((Below.refl w3.heap.size w3).alloc (Nat.le_refl _) _).trans (hb4.mono (by first | (simp; done) | (simp; omega))); obtain ⟨a4, c4, hv4⟩ := ho4.sl.form; simp only [List.length_cons, List.length_nil] at hv4; subst hv4; have HB4 := hid (HB3.out.trans (hb4.mono HB3.out.size)); clear hb4 ho4)
          | (have _u := HB2; clear _u; go_at_call 7; go_loud (refine (G8.out _ _ (lit_sl (by first | simp | rfl) rfl rfl (by simp))).mono ?_); rintro e w3 ⟨v3, rfl, ho3, hb3⟩; replace hb3 := ((Below.refl w2.heap.size w2).alloc (Nat.le_refl _) _).trans (hb3.mono (by first | (simp; done) | (simp; omega))); obtain ⟨a3, c3, hv3⟩ := ho3.sl.form; simp only [List.length_cons, List.length_nil] at hv3; subst hv3; have HB3 := hid (HB2.out.trans (hb3.mono HB2.out.size)); clear hb3 ho3)
          | (have _u := HB1; clear _u; go_at_call 7; go_loud (refine (G1.out _ _ HO1.out).mono ?_); rintro e w2 ⟨v2, rfl, ho2, hb2⟩; have HB2 := hid (HB1.out.trans (hb2.mono HB1.out.size)); clear hb2 ho2)
          | (at_builtin; go_loud (refine wpList_app _ rfl _ _ 22 rfl .i64 w.heap.size 3 8 Try.underlying22 Try.infoI64 _ (List.replicate j 65) [56320] rfl (hown.out.alloc _) _ rfl (one_sl (by first | simp | rfl)) (by unfold maxLen; simp; omega) (by simp; omega) (by have := hbel.out.size; simp; omega) ?_); intro v1 w1 ho1 hg1 hb1 hn1; clear hg1 hn1; have HO1 := hid ho1.sl; have HB1 := hid ((hbel.out.alloc hbel.out.size _).trans hb1); clear hb1 ho1))
      go_ret
      exact ⟨rfl, HB5.out⟩

set_option maxRecDepth 10000 in
set_option maxHeartbeats 4000000 in
theorem walkEdges14_3 (HP : WPutOk) (HG : WGetOk) (how : Int) (N : Nat) (n0 : Int) (w : World) (hK : (IntKind.u64.wrap how).tmod 4 = 3) (hn0 : wrap64 ((IntKind.u64.wrap n0).tmod 50) = (N : Int)) (hN : N < 50) :
    Calls Try.prog 5 #[.int .i64 n0, .int .i64 how] w fun e w' => e = .returned (.bool true) ∧ Below w.heap.size w w' := by
  have HW := hid (fun w => lawWakes14 HP HG w)
  obtain ⟨X, hX⟩ := wput_all N
  obtain ⟨q, hq⟩ : ∃ q, q = 4 * N := ⟨_, rfl⟩
  have hl : X.length = q := by rw [(wput_get hX).2.1, List.length_replicate, hq]; rfl
  have hX8 := (wput_get hX).2.2.1
  have G1 := hid (fun v w h => HP v (List.replicate N 65) 4 w h (rep_inI N) (by rw [List.length_replicate]; omega))
  rw [show wput 4 (List.replicate N 65) = res3 14 (wputB true (List.replicate N 65)) from rfl, hX] at G1
  simp only [res3, outAt, outE, outL] at G1
  have G2 := hid (fun v w h => HG v (X ++ [0, 0, 0]) 4 w h (fun x hx => by
    rcases List.mem_append.1 hx with hx | hx
    · exact hX8 x hx
    · simp at hx; omega) (by rw [List.length_append]; simp; omega))
  rw [show wget 4 (X ++ [0, 0, 0]) = ([], ((q : Nat) : Int), 11) by
    show wgetB true _ = _
    unfold wgetB
    rw [List.length_append, hl, hq, if_neg (by show ¬ (4 * N + 3) % 4 = 0; omega), show (4 * N + [(0 : Int), 0, 0].length) / wk true * wk true = 4 * N by show (4 * N + 3) / 4 * 4 = _; omega]] at G2
  have eq4 : (q : Int) / 4 = (N : Int) := by omega
  have HXL := hid hl
  have hq1 : q ≤ 200 := by omega
  simp only at G2
  clear hX hX8 hq hl
  have G8 := hid (fun v w h => HP v [65535] 2 w h (by decide) (by decide))
  rw [show wput 2 [65535] = ([255, 255], 0, 0) by decide +kernel] at G8
  have G9 := hid (fun v w h => HP v [1114111] 4 w h (by decide) (by decide))
  rw [show wput 4 [1114111] = ([0, 16, 255, 255], 0, 0) by decide +kernel] at G9
  clear HP HG
  go_enter Try.func5, Try.ntmps5
  go_wp2
  go_loopw [5] (fun bv wr => ∃ (j : Nat) (a : Option Addr) (c : Nat), j ≤ N ∧ bv = .slice a j c ∧ Hid (Own .i64 3 w.heap.size wr bv (List.replicate j 65)) ∧ Hid (Below w.heap.size w wr)) (fun bv _ => N - lenV bv)
  case atStart => exact ⟨0, none, 0, Nat.zero_le _, rfl, Own.nil _ _ _ _, Below.refl _ _⟩
  case round =>
    obtain ⟨j, a, c, hj, rfl, hown, hbel⟩ := hrel
    by_cases hlt : j < N
    · go_wp2_with (at_builtin; go_loud (refine wpList_app _ rfl _ _ 22 rfl .i64 w.heap.size 3 8 Try.underlying22 Try.infoI64 _ (List.replicate j 65) [65] rfl (hown.out.alloc _) _ rfl (one_sl (by first | simp | rfl)) (by unfold maxLen; simp; omega) (by simp; omega) (by have := hbel.out.size; simp; omega) ?_); intro v5 w5 ho5 hg5 hb5 hn5; clear hg5 hn5; rw [rep_next14] at ho5; obtain ⟨a5, c5, hv5⟩ := ho5.sl.form; rw [List.length_replicate] at hv5; subst hv5)
      go_roundw
      case rel => exact ⟨j + 1, a5, c5, by omega, rfl, ho5, (hbel.out.alloc hbel.out.size _).trans hb5⟩
      case measure => simp only [lenV]; omega
    · obtain rfl : j = N := by omega
      go_wp2_with (first
          | (have _u := HB5; clear _u; go_at_call 13; refine (HW.out _).mono ?_; rintro e w6 ⟨rfl, hb6⟩; have HB6 := hid (HB5.out.trans (hb6.mono HB5.out.size)); clear hb6)
          | (have _u := HB4; clear _u; go_at_call 7; go_loud (refine (G9.out _ _ (lit_sl (by first | simp | rfl) rfl rfl (by simp))).mono ?_); rintro e w5 ⟨v5, rfl, ho5, hb5⟩; replace hb5 := ((Below.refl w4.heap.size w4).alloc (Nat.le_refl _) _).trans (hb5.mono (by first | (simp; done) | (simp; omega))); obtain ⟨a5, c5, hv5⟩ := ho5.sl.form; simp only [List.length_cons, List.length_nil] at hv5; subst hv5; have HB5 := hid (HB4.out.trans (hb5.mono HB4.out.size)); clear hb5 ho5)
          | (have _u := HB3; clear _u; go_at_call 7; go_loud (refine (G8.out _ _ (lit_sl (by first | simp | rfl) rfl rfl (by simp))).mono ?_); rintro e w4 ⟨v4, rfl, ho4, hb4⟩; replace hb4 := ((Below.refl w3.heap.size w3).alloc (Nat.le_refl _) _).trans (hb4.mono (by first | (simp; done) | (simp; omega))); obtain ⟨a4, c4, hv4⟩ := ho4.sl.form; simp only [List.length_cons, List.length_nil] at hv4; subst hv4; have HB4 := hid (HB3.out.trans (hb4.mono HB3.out.size)); clear hb4 ho4)
          | (have _u := HB2; clear _u; go_at_call 8; go_loud (refine (G2.out _ _ HO2.out).mono ?_); rintro e w3 ⟨v3, rfl, ho3, hb3⟩; have HB3 := hid (HB2.out.trans (hb3.mono HB2.out.size)); clear hb3 ho3)
          | (have _u := HB1; clear _u; at_builtin; go_loud (refine wpList_app _ rfl _ _ 23 rfl .u8 wr.heap.size 5 1 Try.underlying23 Try.infoU8 _ X [0, 0, 0] rfl (HO1.out.alloc _) _ rfl (lit_sl (by first | simp | rfl) rfl rfl (by simp)) (by have := HXL.out; unfold maxLen; simp; omega) (by have := HXL.out; simp; omega) (by have := HQ1.out.size; simp; omega) ?_); intro v2 w2 ho2 hg2 hb2 hn2; clear hg2 hn2; have HO2 := hid ho2.sl; have HB2 := hid (hbel.out.trans (((HQ1.out.alloc HQ1.out.size _).trans hb2).mono hbel.out.size)); clear hb2 ho2)
          | (go_at_call 7; go_loud (refine (G1.out _ _ hown.out.sl).mono ?_); rintro e w1 ⟨v1, rfl, ho1, hb1⟩; have HO1 := hid ho1; have HQ1 := hid hb1; have HB1 := hid (hbel.out.trans (hb1.mono hbel.out.size)); clear hb1 ho1))
      go_ret
      exact ⟨rfl, HB6.out⟩

theorem walkEdges14 (HP : WPutOk) (HG : WGetOk) (n0 how : Int) (w : World) :
    Calls Try.prog 5 #[.int .i64 n0, .int .i64 how] w fun e w' => e = .returned (.bool true) ∧ Below w.heap.size w w' := by
  obtain ⟨N, hN, hN1, hN2⟩ := ix_rem n0 50 (by omega) (by omega)
  obtain ⟨M, rfl⟩ : ∃ M : Nat, N = (M : Int) := ⟨N.toNat, by omega⟩
  have hM : M < 50 := by omega
  have hk := ixr' how 4 (by omega)
  have hcs : (IntKind.u64.wrap how).tmod 4 = 0 ∨ (IntKind.u64.wrap how).tmod 4 = 1 ∨ (IntKind.u64.wrap how).tmod 4 = 2 ∨ (IntKind.u64.wrap how).tmod 4 = 3 := by omega
  rcases hcs with h | h | h | h
  · exact walkEdges14_0 HP HG how M n0 w h hN hM
  · exact walkEdges14_1 HP HG how M n0 w h hN hM
  · exact walkEdges14_2 HP HG how M n0 w h hN hM
  · exact walkEdges14_3 HP HG how M n0 w h hN hM
end Go.Proofs.Ytcbijgmlmcpidaa
