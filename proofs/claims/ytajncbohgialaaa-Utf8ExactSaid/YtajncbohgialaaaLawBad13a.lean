/- Walk of law13's Utf8Bad at some of its byte strings, out of what is asked of package utf8. -/
import Derived.Test.YtajncbohgialaaaLawBad13o
namespace Go.Proofs.Ytajncbohgialaaa
open Go.RowKit

set_option maxRecDepth 10000 in
set_option maxHeartbeats 4000000 in
theorem walkBad13_0 (HP : UPutOk) (HG : UGetOk) (HO : UOneOk) (how : Int) (N : Nat) (n0 : Int) (w : World) (hK : wrap64 ((IntKind.u64.wrap how).tmod 13) = 0) (hn0 : wrap64 ((IntKind.u64.wrap n0).tmod 60) = (N : Int)) (hN : N < 60) :
    Calls Try.prog 7 #[.int .i64 how, .int .i64 n0] w fun e w' => e = .returned (.bool true) ∧ Below w.heap.size w w' := by
  have HW := hid (fun w => lawWakes13 HP HG w)
  have G1 := hid (fun v w h => HO v [192, 128] w h (by unfold U8; decide) (by decide))
  rw [show u8one [192, 128] = (0, 0) by decide +kernel] at G1
  have HR := hid (get_rep (show getU [192, 128] = .inr 0 by decide +kernel) N)
  have G2 := hid (fun v w h => HG v (List.replicate N 97 ++ [192, 128]) w h (fun x hx => by
    rcases List.mem_append.1 hx with hx | hx
    · have := (List.mem_replicate.1 hx).2
      omega
    · exact (show U8 [192, 128] by unfold U8; decide) x hx) (by rw [List.length_append, List.length_replicate]; simp; omega))
  rw [HR.out] at G2
  simp only [outAt, outE, outL] at G2
  clear HP HG HO HR
  go_enter Try.func7, Try.ntmps7
  go_wp2
  go_loopw [7] (fun bv wr => ∃ (j : Nat) (a : Option Addr) (c : Nat), j ≤ N ∧ bv = .slice a j c ∧ Hid (Own .u8 5 (w.heap.size + 14) wr bv (List.replicate j 97)) ∧ Hid (Below w.heap.size w wr) ∧ Hid (Box 5 ([192, 128].map (Value.int .u8)) (w.heap.size) wr) ∧ Hid (w.heap.size + 14 ≤ wr.heap.size)) (fun bv _ => N - lenV bv)
  case atStart =>
    refine ⟨0, none, 0, Nat.zero_le _, rfl, Own.nil _ _ _ _, by show Below _ _ _; repeat (first | exact Below.refl _ _ | refine Below.alloc ?_ (by first | (simp; done) | (simp; omega)) _), ?_, by show _ ≤ _; simp⟩
    show Box _ _ _ _
    refine Box.alloc ?_ _
    refine Box.alloc ?_ _
    refine Box.alloc ?_ _
    refine Box.alloc ?_ _
    refine Box.alloc ?_ _
    refine Box.alloc ?_ _
    refine Box.alloc ?_ _
    refine Box.alloc ?_ _
    refine Box.alloc ?_ _
    refine Box.alloc ?_ _
    refine Box.alloc ?_ _
    refine Box.alloc ?_ _
    refine Box.alloc ?_ _
    exact box_at (by simp)
  case round =>
    obtain ⟨j, a, c, hj, rfl, hown, hbel, hbox, hsz⟩ := hrel
    by_cases hlt : j < N
    · go_wp2_with (at_builtin; go_loud (refine wpList_app _ rfl _ _ 23 rfl .u8 (w.heap.size + 14) 5 1 Try.underlying23 Try.infoU8 _ (List.replicate j 97) [97] rfl (hown.out.alloc _) _ rfl (one_sl (by first | simp | rfl)) (by unfold maxLen; simp; omega) (by simp; omega) (by have := hsz.out; simp; omega) ?_); intro v5 w5 ho5 hg5 hb5 hn5; have hz5 := hg5.size; clear hg5 hn5; rw [rep_next] at ho5; obtain ⟨a5, c5, hv5⟩ := ho5.sl.form; rw [List.length_replicate] at hv5; subst hv5)
      go_roundw
      case rel => exact ⟨j + 1, a5, c5, by omega, rfl, ho5, (hbel.out.alloc hbel.out.size _).trans (hb5.mono (by omega)), (hbox.out.alloc _).below hb5 (by omega), by show _ ≤ _; have := hsz.out; simp at hz5; omega⟩
      case measure => simp only [lenV]; omega
    · obtain rfl : j = N := by omega
      go_wp2_with (first
        | (have _u := HB3; clear _u; go_at_call 17; refine (HW.out _).mono ?_; rintro e w4 ⟨rfl, hb4⟩; have HB4 := hid (HB3.out.trans (hb4.mono HB3.out.size)); clear hb4)
        | (have _u := HB2; clear _u; go_at_call 10; go_loud (refine (G2.out _ _ HO2.out.sl).mono ?_); rintro e w3 ⟨v3, rfl, ho3, hb3⟩; obtain ⟨a3, c3, hv3⟩ := ho3.form; simp only [List.length_nil] at hv3; subst hv3; have HB3 := hid (HB2.out.trans (hb3.mono HB2.out.size)); clear hb3 ho3)
        | (have _u := HB1; clear _u; at_builtin; go_loud (refine wpList_app _ rfl _ _ 23 rfl .u8 (w.heap.size + 14) 5 1 Try.underlying23 Try.infoU8 _ (List.replicate j 97) [192, 128] rfl HO1.out _ rfl (box_sl HX1.out rfl (by decide)) (by unfold maxLen; simp; omega) (by simp; omega) HZ1.out ?_); intro v2 w2 ho2 hg2 hb2 hn2; clear hg2 hn2; have HO2 := hid ho2; have HB2 := hid (HB1.out.trans (hb2.mono (by omega))); clear hb2 ho2)
        | (go_at_call 11; go_loud (refine (G1.out _ _ (box_sl hbox.out rfl (by decide))).mono ?_); rintro e w1 ⟨rfl, hb1⟩; have HB1 := hid (hbel.out.trans (hb1.mono hbel.out.size)); have HO1 := hid (hown.out.below hb1); have HX1 := hid (hbox.out.below hb1 hbox.out.lt); have HZ1 := hid (Nat.le_trans hsz.out hb1.size); clear hb1))
      go_ret
      exact ⟨rfl, HB4.out⟩
set_option maxRecDepth 10000 in
set_option maxHeartbeats 4000000 in
theorem walkBad13_1 (HP : UPutOk) (HG : UGetOk) (HO : UOneOk) (how : Int) (N : Nat) (n0 : Int) (w : World) (hK : wrap64 ((IntKind.u64.wrap how).tmod 13) = 1) (hn0 : wrap64 ((IntKind.u64.wrap n0).tmod 60) = (N : Int)) (hN : N < 60) :
    Calls Try.prog 7 #[.int .i64 how, .int .i64 n0] w fun e w' => e = .returned (.bool true) ∧ Below w.heap.size w w' := by
  have HW := hid (fun w => lawWakes13 HP HG w)
  have G1 := hid (fun v w h => HO v [193, 191] w h (by unfold U8; decide) (by decide))
  rw [show u8one [193, 191] = (0, 0) by decide +kernel] at G1
  have HR := hid (get_rep (show getU [193, 191] = .inr 0 by decide +kernel) N)
  have G2 := hid (fun v w h => HG v (List.replicate N 97 ++ [193, 191]) w h (fun x hx => by
    rcases List.mem_append.1 hx with hx | hx
    · have := (List.mem_replicate.1 hx).2
      omega
    · exact (show U8 [193, 191] by unfold U8; decide) x hx) (by rw [List.length_append, List.length_replicate]; simp; omega))
  rw [HR.out] at G2
  simp only [outAt, outE, outL] at G2
  clear HP HG HO HR
  go_enter Try.func7, Try.ntmps7
  go_wp2
  go_loopw [7] (fun bv wr => ∃ (j : Nat) (a : Option Addr) (c : Nat), j ≤ N ∧ bv = .slice a j c ∧ Hid (Own .u8 5 (w.heap.size + 14) wr bv (List.replicate j 97)) ∧ Hid (Below w.heap.size w wr) ∧ Hid (Box 5 ([193, 191].map (Value.int .u8)) (w.heap.size + 1) wr) ∧ Hid (w.heap.size + 14 ≤ wr.heap.size)) (fun bv _ => N - lenV bv)
  case atStart =>
    refine ⟨0, none, 0, Nat.zero_le _, rfl, Own.nil _ _ _ _, by show Below _ _ _; repeat (first | exact Below.refl _ _ | refine Below.alloc ?_ (by first | (simp; done) | (simp; omega)) _), ?_, by show _ ≤ _; simp⟩
    show Box _ _ _ _
    refine Box.alloc ?_ _
    refine Box.alloc ?_ _
    refine Box.alloc ?_ _
    refine Box.alloc ?_ _
    refine Box.alloc ?_ _
    refine Box.alloc ?_ _
    refine Box.alloc ?_ _
    refine Box.alloc ?_ _
    refine Box.alloc ?_ _
    refine Box.alloc ?_ _
    refine Box.alloc ?_ _
    refine Box.alloc ?_ _
    exact box_at (by simp)
  case round =>
    obtain ⟨j, a, c, hj, rfl, hown, hbel, hbox, hsz⟩ := hrel
    by_cases hlt : j < N
    · go_wp2_with (at_builtin; go_loud (refine wpList_app _ rfl _ _ 23 rfl .u8 (w.heap.size + 14) 5 1 Try.underlying23 Try.infoU8 _ (List.replicate j 97) [97] rfl (hown.out.alloc _) _ rfl (one_sl (by first | simp | rfl)) (by unfold maxLen; simp; omega) (by simp; omega) (by have := hsz.out; simp; omega) ?_); intro v5 w5 ho5 hg5 hb5 hn5; have hz5 := hg5.size; clear hg5 hn5; rw [rep_next] at ho5; obtain ⟨a5, c5, hv5⟩ := ho5.sl.form; rw [List.length_replicate] at hv5; subst hv5)
      go_roundw
      case rel => exact ⟨j + 1, a5, c5, by omega, rfl, ho5, (hbel.out.alloc hbel.out.size _).trans (hb5.mono (by omega)), (hbox.out.alloc _).below hb5 (by omega), by show _ ≤ _; have := hsz.out; simp at hz5; omega⟩
      case measure => simp only [lenV]; omega
    · obtain rfl : j = N := by omega
      go_wp2_with (first
        | (have _u := HB3; clear _u; go_at_call 17; refine (HW.out _).mono ?_; rintro e w4 ⟨rfl, hb4⟩; have HB4 := hid (HB3.out.trans (hb4.mono HB3.out.size)); clear hb4)
        | (have _u := HB2; clear _u; go_at_call 10; go_loud (refine (G2.out _ _ HO2.out.sl).mono ?_); rintro e w3 ⟨v3, rfl, ho3, hb3⟩; obtain ⟨a3, c3, hv3⟩ := ho3.form; simp only [List.length_nil] at hv3; subst hv3; have HB3 := hid (HB2.out.trans (hb3.mono HB2.out.size)); clear hb3 ho3)
        | (have _u := HB1; clear _u; at_builtin; go_loud (refine wpList_app _ rfl _ _ 23 rfl .u8 (w.heap.size + 14) 5 1 Try.underlying23 Try.infoU8 _ (List.replicate j 97) [193, 191] rfl HO1.out _ rfl (box_sl HX1.out rfl (by decide)) (by unfold maxLen; simp; omega) (by simp; omega) HZ1.out ?_); intro v2 w2 ho2 hg2 hb2 hn2; clear hg2 hn2; have HO2 := hid ho2; have HB2 := hid (HB1.out.trans (hb2.mono (by omega))); clear hb2 ho2)
        | (go_at_call 11; go_loud (refine (G1.out _ _ (box_sl hbox.out rfl (by decide))).mono ?_); rintro e w1 ⟨rfl, hb1⟩; have HB1 := hid (hbel.out.trans (hb1.mono hbel.out.size)); have HO1 := hid (hown.out.below hb1); have HX1 := hid (hbox.out.below hb1 hbox.out.lt); have HZ1 := hid (Nat.le_trans hsz.out hb1.size); clear hb1))
      go_ret
      exact ⟨rfl, HB4.out⟩
set_option maxRecDepth 10000 in
set_option maxHeartbeats 4000000 in
theorem walkBad13_2 (HP : UPutOk) (HG : UGetOk) (HO : UOneOk) (how : Int) (N : Nat) (n0 : Int) (w : World) (hK : wrap64 ((IntKind.u64.wrap how).tmod 13) = 2) (hn0 : wrap64 ((IntKind.u64.wrap n0).tmod 60) = (N : Int)) (hN : N < 60) :
    Calls Try.prog 7 #[.int .i64 how, .int .i64 n0] w fun e w' => e = .returned (.bool true) ∧ Below w.heap.size w w' := by
  have HW := hid (fun w => lawWakes13 HP HG w)
  have G1 := hid (fun v w h => HO v [224, 159, 191] w h (by unfold U8; decide) (by decide))
  rw [show u8one [224, 159, 191] = (0, 0) by decide +kernel] at G1
  have HR := hid (get_rep (show getU [224, 159, 191] = .inr 0 by decide +kernel) N)
  have G2 := hid (fun v w h => HG v (List.replicate N 97 ++ [224, 159, 191]) w h (fun x hx => by
    rcases List.mem_append.1 hx with hx | hx
    · have := (List.mem_replicate.1 hx).2
      omega
    · exact (show U8 [224, 159, 191] by unfold U8; decide) x hx) (by rw [List.length_append, List.length_replicate]; simp; omega))
  rw [HR.out] at G2
  simp only [outAt, outE, outL] at G2
  clear HP HG HO HR
  go_enter Try.func7, Try.ntmps7
  go_wp2
  go_loopw [7] (fun bv wr => ∃ (j : Nat) (a : Option Addr) (c : Nat), j ≤ N ∧ bv = .slice a j c ∧ Hid (Own .u8 5 (w.heap.size + 14) wr bv (List.replicate j 97)) ∧ Hid (Below w.heap.size w wr) ∧ Hid (Box 5 ([224, 159, 191].map (Value.int .u8)) (w.heap.size + 1 + 1) wr) ∧ Hid (w.heap.size + 14 ≤ wr.heap.size)) (fun bv _ => N - lenV bv)
  case atStart =>
    refine ⟨0, none, 0, Nat.zero_le _, rfl, Own.nil _ _ _ _, by show Below _ _ _; repeat (first | exact Below.refl _ _ | refine Below.alloc ?_ (by first | (simp; done) | (simp; omega)) _), ?_, by show _ ≤ _; simp⟩
    show Box _ _ _ _
    refine Box.alloc ?_ _
    refine Box.alloc ?_ _
    refine Box.alloc ?_ _
    refine Box.alloc ?_ _
    refine Box.alloc ?_ _
    refine Box.alloc ?_ _
    refine Box.alloc ?_ _
    refine Box.alloc ?_ _
    refine Box.alloc ?_ _
    refine Box.alloc ?_ _
    refine Box.alloc ?_ _
    exact box_at (by simp)
  case round =>
    obtain ⟨j, a, c, hj, rfl, hown, hbel, hbox, hsz⟩ := hrel
    by_cases hlt : j < N
    · go_wp2_with (at_builtin; go_loud (refine wpList_app _ rfl _ _ 23 rfl .u8 (w.heap.size + 14) 5 1 Try.underlying23 Try.infoU8 _ (List.replicate j 97) [97] rfl (hown.out.alloc _) _ rfl (one_sl (by first | simp | rfl)) (by unfold maxLen; simp; omega) (by simp; omega) (by have := hsz.out; simp; omega) ?_); intro v5 w5 ho5 hg5 hb5 hn5; have hz5 := hg5.size; clear hg5 hn5; rw [rep_next] at ho5; obtain ⟨a5, c5, hv5⟩ := ho5.sl.form; rw [List.length_replicate] at hv5; subst hv5)
      go_roundw
      case rel => exact ⟨j + 1, a5, c5, by omega, rfl, ho5, (hbel.out.alloc hbel.out.size _).trans (hb5.mono (by omega)), (hbox.out.alloc _).below hb5 (by omega), by show _ ≤ _; have := hsz.out; simp at hz5; omega⟩
      case measure => simp only [lenV]; omega
    · obtain rfl : j = N := by omega
      go_wp2_with (first
        | (have _u := HB3; clear _u; go_at_call 17; refine (HW.out _).mono ?_; rintro e w4 ⟨rfl, hb4⟩; have HB4 := hid (HB3.out.trans (hb4.mono HB3.out.size)); clear hb4)
        | (have _u := HB2; clear _u; go_at_call 10; go_loud (refine (G2.out _ _ HO2.out.sl).mono ?_); rintro e w3 ⟨v3, rfl, ho3, hb3⟩; obtain ⟨a3, c3, hv3⟩ := ho3.form; simp only [List.length_nil] at hv3; subst hv3; have HB3 := hid (HB2.out.trans (hb3.mono HB2.out.size)); clear hb3 ho3)
        | (have _u := HB1; clear _u; at_builtin; go_loud (refine wpList_app _ rfl _ _ 23 rfl .u8 (w.heap.size + 14) 5 1 Try.underlying23 Try.infoU8 _ (List.replicate j 97) [224, 159, 191] rfl HO1.out _ rfl (box_sl HX1.out rfl (by decide)) (by unfold maxLen; simp; omega) (by simp; omega) HZ1.out ?_); intro v2 w2 ho2 hg2 hb2 hn2; clear hg2 hn2; have HO2 := hid ho2; have HB2 := hid (HB1.out.trans (hb2.mono (by omega))); clear hb2 ho2)
        | (go_at_call 11; go_loud (refine (G1.out _ _ (box_sl hbox.out rfl (by decide))).mono ?_); rintro e w1 ⟨rfl, hb1⟩; have HB1 := hid (hbel.out.trans (hb1.mono hbel.out.size)); have HO1 := hid (hown.out.below hb1); have HX1 := hid (hbox.out.below hb1 hbox.out.lt); have HZ1 := hid (Nat.le_trans hsz.out hb1.size); clear hb1))
      go_ret
      exact ⟨rfl, HB4.out⟩
end Go.Proofs.Ytajncbohgialaaa
