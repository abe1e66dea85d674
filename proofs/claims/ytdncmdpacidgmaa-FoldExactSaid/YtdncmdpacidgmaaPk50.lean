/- Several texts in one: LawExact12. -/
import Derived.Test.YtdncmdpacidgmaaPk31
import Derived.Test.YtdncmdpacidgmaaPk49
import Derived.Test.YtdncmdpacidgmaaPk5
/-! LawExact12 -/
namespace Go.Proofs.Ytdncmdpacidgmaa
open Go.RowKit

set_option maxHeartbeats 4000000 in
theorem walkExact12 (HO : FOneOk) (HA : FAllOk) (c : Int) (v : Value) (s : List Int) (w : World) (hc : inI c = true) (h : Sl .i64 w v s) (hi : s.all inI = true) :
    Calls Try.prog 3 #[.int .i64 c, v] w fun e w' => e = .returned (.bool true) ∧ Below w.heap.size w w' := by
  have HS := hid h
  have ml := h.len
  obtain ⟨av, cv, hv⟩ := h.form
  obtain ⟨n, hn⟩ : ∃ n, n = s.length := ⟨_, rfl⟩
  rw [← hn] at hv ml
  subst hv
  have HN := hid hn
  have HW := hid (fun w => lawWakes12 HO HA w)
  have HB0 := hid (Below.refl w.heap.size w)
  clear hn h
  by_cases hl : n ≤ 300
  · have G2 := hid (fun v w h => keepTwinInts v s w h (by have := HN.out; omega))
    have G3 := hid (fun w => HO c w hc)
    have G4 := hid (fun B w h => refFoldOne12 B c w h)
    have G6 := hid (fun v w h => HA v s w h hi (by have := HN.out; omega))
    have G7 := hid (fun B v w ht h => refFoldAll12 B v s w ht h (by have := HN.out; omega))
    generalize foldS c = O at G3 G4
    generalize foldAllS s = A at G6 G7
    clear HO HA hc hi
    go_enter Try.func3, Try.ntmps3
    go_wp2_with (first
      | (have _u := HB9; clear _u; go_at_call 14; refine (HW.out _).mono ?_; rintro e w10 ⟨rfl, hb10⟩; have HB10 := hid (HB9.out.trans (hb10.mono HB9.out.size)); clear hb10)
      | (have _u := HB8; clear _u; go_at_call 9; refine (keepInts _ _ s s _ S_i_8.out S_s_8.out).mono ?_; rw [eqL_self]; rintro e w9 ⟨rfl, n9, hw9⟩; have hb9 : Below w8.heap.size w8 w9 := (by rw [hw9]; exact below_drewN n9); clear hw9; have HB9 := hid (HB8.out.trans (hb9.mono HB8.out.size)); clear hb9)
      | (have _u := HB7; clear _u; go_at_call 9; refine (keepInts _ _ A A _ S_p_7.out S_q_7.out).mono ?_; rw [eqL_self]; rintro e w8 ⟨rfl, n8, hw8⟩; have hb8 : Below w7.heap.size w7 w8 := (by rw [hw8]; exact below_drewN n8); clear hw8; have S_s_8 := hid (S_s_7.out.below hb8); have S_i_8 := hid (S_i_7.out.below hb8); have HB8 := hid (HB7.out.trans (hb8.mono HB7.out.size)); clear hb8)
      | (have _u := HB6; clear _u; go_at_call 13; with_reducible refine (G7.out B _ _ S_T_6.out S_s_6.out).mono ?_; rintro e w7 ⟨v7, rfl, ho7, hb7⟩; have S_s_7 := hid (S_s_6.out.below hb7); have S_i_7 := hid (S_i_6.out.below hb7); have S_p_7 := hid (S_p_6.out.below hb7); have S_q_7 := hid ho7.sl; clear ho7; have HB7 := hid (HB6.out.trans (hb7.mono HB6.out.size)); clear hb7)
      | (have _u := HB5; clear _u; go_at_call 12; with_reducible refine (G6.out _ _ S_i_5.out).mono ?_; rintro e w6 ⟨v6, rfl, ho6, hb6⟩; have S_s_6 := hid (S_s_5.out.below hb6); have S_T_6 := hid (S_T_5.out.below hb6); have S_i_6 := hid (S_i_5.out.below hb6); have S_p_6 := hid ho6.sl; clear ho6; have HB6 := hid (HB5.out.trans (hb6.mono HB5.out.size)); clear hb6)
      | (have _u := HB4; clear _u; go_at_call 9; refine (keepInts _ _ O O _ S_x_4.out S_y_4.out).mono ?_; rw [eqL_self]; rintro e w5 ⟨rfl, n5, hw5⟩; have hb5 : Below w4.heap.size w4 w5 := (by rw [hw5]; exact below_drewN n5); clear hw5; have S_s_5 := hid (S_s_4.out.below hb5); have S_T_5 := hid (S_T_4.out.below hb5); have S_i_5 := hid (S_i_4.out.below hb5); have HB5 := hid (HB4.out.trans (hb5.mono HB4.out.size)); clear hb5)
      | (have _u := HB3; clear _u; go_at_call 11; with_reducible refine (G4.out B _ S_T_3.out).mono ?_; rintro e w4 ⟨v4, rfl, ho4, hb4⟩; have S_s_4 := hid (S_s_3.out.below hb4); have S_T_4 := hid (S_T_3.out.below hb4); have S_i_4 := hid (S_i_3.out.below hb4); have S_x_4 := hid (S_x_3.out.below hb4); have S_y_4 := hid ho4; clear ho4; have HB4 := hid (HB3.out.trans (hb4.mono HB3.out.size)); clear hb4)
      | (have _u := HB2; clear _u; go_at_call 10; refine (G3.out _).mono ?_; rintro e w3 ⟨v3, rfl, ho3, hb3⟩; have S_s_3 := hid (S_s_2.out.below hb3); have S_T_3 := hid (S_T_2.out.below hb3); have S_i_3 := hid (S_i_2.out.below hb3); have S_x_3 := hid ho3; clear ho3; have HB3 := hid (HB2.out.trans (hb3.mono HB2.out.size)); clear hb3)
      | (have _u := HB1; clear _u; go_at_call 8; with_reducible refine (G2.out _ _ S_s_1.out).mono ?_; rintro e w2 ⟨v2, rfl, ho2, hb2⟩; have S_s_2 := hid (S_s_1.out.below hb2); have S_T_2 := hid (S_T_1.out.below hb2); have S_i_2 := hid ho2.sl; clear ho2; have HB2 := hid (HB1.out.trans (hb2.mono HB1.out.size)); clear hb2)
      | (have _u := HB0; clear _u; go_at_call 7; refine (refAll6 _).mono ?_; rintro e w1 ⟨B, rfl, ht1, hb1⟩; have S_s_1 := hid (HS.out.below hb1); have S_T_1 := hid ht1; clear ht1; have HB1 := hid (HB0.out.trans (hb1.mono HB0.out.size)); clear hb1))
    go_ret
    exact ⟨rfl, HB10.out⟩
  · have hl2 : 300 < n := by omega
    clear HO HA hl
    go_enter Try.func3, Try.ntmps3
    go_wp2
    go_ret
    exact ⟨rfl, Below.refl _ _⟩
end Go.Proofs.Ytdncmdpacidgmaa
