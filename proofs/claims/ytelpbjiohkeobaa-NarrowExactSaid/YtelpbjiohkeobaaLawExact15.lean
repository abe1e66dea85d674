/- Walk of law15's NarrowExact, out of what is asked of package narrow. -/
import Derived.Test.YtelpbjiohkeobaaNarOk
import Derived.Test.YtelpbjiohkeobaaRef15
import Derived.Test.YtelpbjiohkeobaaTwin
namespace Go.Proofs.Ytelpbjiohkeobaa
theorem refHasB15 (k c : Int) (w : World) : Calls Try.prog 13 #[.int .i64 k, .int .i64 c] w fun e w' => e = .returned (.bool (narB k c)) ∧ Go.RowKit.Below w.heap.size w w' := (refHas15 k c w).mono fun e w' h => by
  obtain ⟨h1, rfl⟩ := h
  exact ⟨h1, Go.RowKit.Below.refl _ _⟩
open Go.RowKit

set_option maxRecDepth 10000 in
set_option maxHeartbeats 4000000 in
theorem walkExact15 (HP : NPutOk) (HG : NGetOk) (HH : NHasOk) (k c : Int) (v1 v2 : Value) (s b : List Int) (w : World) (hc : inI c = true) (h1 : Sl .i64 w v1 s) (hi : s.all inI = true) (h2 : Sl .u8 w v2 b) (hu : U8 b) :
    Calls Try.prog 3 #[.int .i64 k, .int .i64 c, v1, v2] w fun e w' => e = .returned (.bool true) ∧ Below w.heap.size w w' := by
  have HS_s := hid h1
  have ml_s := h1.len
  obtain ⟨a_s, c_s, hv_s⟩ := h1.form
  obtain ⟨ns, hn_s⟩ : ∃ n, n = s.length := ⟨_, rfl⟩
  rw [← hn_s] at hv_s ml_s
  subst hv_s
  have HN_s := hid hn_s
  clear hn_s h1
  have HS_b := hid h2
  have ml_b := h2.len
  obtain ⟨a_b, c_b, hv_b⟩ := h2.form
  obtain ⟨nb, hn_b⟩ : ∃ n, n = b.length := ⟨_, rfl⟩
  rw [← hn_b] at hv_b ml_b
  subst hv_b
  have HN_b := hid hn_b
  clear hn_b h2
  have HW := hid (fun w => lawWakes15 HP HG HH w)
  have HB0 := hid (Below.refl w.heap.size w)
  by_cases hl_ns : ns ≤ 400
  · by_cases hl_nb : nb ≤ 400
    · have G1 := hid (fun v w h => HP k v s w h hi (by have := HN_s.out; omega))
      have G2 := hid (fun v w h => HG k v b w h hu (by have := HN_b.out; omega))
      have G4 := hid (fun v w h => refPut15 k v s w h (by have := HN_s.out; omega))
      have G5 := hid (fun v w h => refGet15 k v b w h hu (by have := HN_b.out; omega))
      have G6 := hid (fun w => HH k c w hc)
      have G7 := hid (fun w => refHasB15 k c w)
      generalize (nput k s).1 = PX at G1 G4
      generalize (nput k s).2.1 = PA at G1 G4
      generalize (nput k s).2.2 = PE at G1 G4
      generalize (nget k b).1 = GY at G2 G5
      generalize (nget k b).2.1 = GA at G2 G5
      generalize (nget k b).2.2 = GE at G2 G5
      generalize narB k c = HX at G6 G7
      clear HP HG HH hi hu hc
      go_enter Try.func3, Try.ntmps3
      go_wp2_with (first
        | (have _u := HB10; clear _u; go_at_call 16; refine (HW.out _).mono ?_; rintro e w11 ⟨rfl, hb11⟩; have HB11 := hid (HB10.out.trans (hb11.mono HB10.out.size)); clear hb11)
        | (have _u := HB9; clear _u; go_at_call 14; refine (keepBytes _ _ b b _ S_d_9.out S_b_9.out).mono ?_; rw [eqL_self]; rintro e w10 ⟨rfl, n10, hw10⟩; have hb10 : Below w9.heap.size w9 w10 := (by rw [hw10]; exact below_drewN n10); clear hw10; have HB10 := hid (HB9.out.trans (hb10.mono HB9.out.size)); clear hb10)
        | (have _u := HB8; clear _u; go_at_call 15; refine (keepInts _ _ GY GY _ S_y_8.out S_v_8.out).mono ?_; rw [eqL_self]; rintro e w9 ⟨rfl, n9, hw9⟩; have hb9 : Below w8.heap.size w8 w9 := (by rw [hw9]; exact below_drewN n9); clear hw9; have S_b_9 := hid (S_b_8.out.below hb9); have S_d_9 := hid (S_d_8.out.below hb9); have HB9 := hid (HB8.out.trans (hb9.mono HB8.out.size)); clear hb9)
        | (have _u := HB7; clear _u; go_at_call 14; refine (keepBytes _ _ PX PX _ S_x_7.out S_u_7.out).mono ?_; rw [eqL_self]; rintro e w8 ⟨rfl, n8, hw8⟩; have hb8 : Below w7.heap.size w7 w8 := (by rw [hw8]; exact below_drewN n8); clear hw8; have S_b_8 := hid (S_b_7.out.below hb8); have S_d_8 := hid (S_d_7.out.below hb8); have S_y_8 := hid (S_y_7.out.below hb8); have S_v_8 := hid (S_v_7.out.below hb8); have HB8 := hid (HB7.out.trans (hb8.mono HB7.out.size)); clear hb8)
        | (have _u := HB6; clear _u; go_at_call 13; with_reducible refine (G7.out _).mono ?_; rintro e w7 ⟨rfl, hb7⟩; have S_b_7 := hid (S_b_6.out.below hb7); have S_d_7 := hid (S_d_6.out.below hb7); have S_x_7 := hid (S_x_6.out.below hb7); have S_y_7 := hid (S_y_6.out.below hb7); have S_u_7 := hid (S_u_6.out.below hb7); have S_v_7 := hid (S_v_6.out.below hb7); have HB7 := hid (HB6.out.trans (hb7.mono HB6.out.size)); clear hb7)
        | (have _u := HB5; clear _u; go_at_call 12; with_reducible refine (G6.out _).mono ?_; rintro e w6 ⟨rfl, hb6⟩; have S_b_6 := hid (S_b_5.out.below hb6); have S_d_6 := hid (S_d_5.out.below hb6); have S_x_6 := hid (S_x_5.out.below hb6); have S_y_6 := hid (S_y_5.out.below hb6); have S_u_6 := hid (S_u_5.out.below hb6); have S_v_6 := hid (S_v_5.out.below hb6); have HB6 := hid (HB5.out.trans (hb6.mono HB5.out.size)); clear hb6)
        | (have _u := HB4; clear _u; go_at_call 11; with_reducible refine (G5.out _ _ S_b_4.out).mono ?_; rintro e w5 ⟨v5, rfl, ho5, hb5⟩; have S_b_5 := hid (S_b_4.out.below hb5); have S_d_5 := hid (S_d_4.out.below hb5); have S_x_5 := hid (S_x_4.out.below hb5); have S_y_5 := hid (S_y_4.out.below hb5); have S_u_5 := hid (S_u_4.out.below hb5); have S_v_5 := hid ho5; clear ho5; have HB5 := hid (HB4.out.trans (hb5.mono HB4.out.size)); clear hb5)
        | (have _u := HB3; clear _u; go_at_call 10; with_reducible refine (G4.out _ _ S_s_3.out).mono ?_; rintro e w4 ⟨v4, rfl, ho4, hb4⟩; have S_b_4 := hid (S_b_3.out.below hb4); have S_d_4 := hid (S_d_3.out.below hb4); have S_x_4 := hid (S_x_3.out.below hb4); have S_y_4 := hid (S_y_3.out.below hb4); have S_u_4 := hid ho4; clear ho4; have HB4 := hid (HB3.out.trans (hb4.mono HB3.out.size)); clear hb4)
        | (have _u := HB2; clear _u; go_at_call 9; with_reducible refine (G2.out _ _ S_d_2.out).mono ?_; rintro e w3 ⟨v3, rfl, ho3, hb3⟩; have S_s_3 := hid (S_s_2.out.below hb3); have S_b_3 := hid (S_b_2.out.below hb3); have S_d_3 := hid (S_d_2.out.below hb3); have S_x_3 := hid (S_x_2.out.below hb3); have S_y_3 := hid ho3; clear ho3; have HB3 := hid (HB2.out.trans (hb3.mono HB2.out.size)); clear hb3)
        | (have _u := HB1; clear _u; go_at_call 8; with_reducible refine (G1.out _ _ S_s_1.out).mono ?_; rintro e w2 ⟨v2, rfl, ho2, hb2⟩; have S_s_2 := hid (S_s_1.out.below hb2); have S_b_2 := hid (S_b_1.out.below hb2); have S_d_2 := hid (S_d_1.out.below hb2); have S_x_2 := hid ho2.sl; clear ho2; have HB2 := hid (HB1.out.trans (hb2.mono HB1.out.size)); clear hb2)
        | (have _u := HB0; clear _u; go_at_call 7; with_reducible refine (keepTwin _ b _ HS_b.out (by have := HN_b.out; omega)).mono ?_; rintro e w1 ⟨v1, rfl, ho1, hb1⟩; have S_s_1 := hid (HS_s.out.below hb1); have S_b_1 := hid (HS_b.out.below hb1); have S_d_1 := hid ho1.sl; clear ho1; have HB1 := hid (HB0.out.trans (hb1.mono HB0.out.size)); clear hb1))
      go_ret
      exact ⟨rfl, HB11.out⟩
    · have hf_nb : 400 < nb := by omega
      clear hl_nb HP HG HH
      go_enter Try.func3, Try.ntmps3
      go_wp2
      go_ret
      exact ⟨rfl, Below.refl _ _⟩
  · have hf_ns : 400 < ns := by omega
    clear hl_ns HP HG HH
    go_enter Try.func3, Try.ntmps3
    go_wp2
    go_ret
    exact ⟨rfl, Below.refl _ _⟩
end Go.Proofs.Ytelpbjiohkeobaa
