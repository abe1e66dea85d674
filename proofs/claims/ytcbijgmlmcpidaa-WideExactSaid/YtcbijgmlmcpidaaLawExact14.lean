/- Walk of law14's WideExact, out of what is asked of package wide. -/
import Derived.Test.YtcbijgmlmcpidaaWideOk
import Derived.Test.YtcbijgmlmcpidaaRef14b
import Derived.Test.YtcbijgmlmcpidaaTwin
namespace Go.Proofs.Ytcbijgmlmcpidaa
open Go.RowKit

set_option maxRecDepth 10000 in
set_option maxHeartbeats 4000000 in
theorem walkExact14 (HP : WPutOk) (HG : WGetOk) (v1 v2 : Value) (s b : List Int) (size : Int) (w : World) (h1 : Sl .i64 w v1 s) (h2 : Sl .u8 w v2 b) (hi : s.all inI = true) (hu : U8 b) :
    Calls Try.prog 3 #[v1, v2, .int .i64 size] w fun e w' => e = .returned (.bool true) ∧ Below w.heap.size w w' := by
  have HS_s := hid h1
  have ml_s := h1.len
  obtain ⟨a_s, c_s, hv_s⟩ := h1.form
  obtain ⟨ns, hn_s⟩ : ∃ n, n = s.length := ⟨_, rfl⟩
  rw [← hn_s] at hv_s ml_s
  subst hv_s
  have HN_s := hid hn_s
  clear hn_s h1
  have HS_b := hid h2
  have ml_b := h2.len
  obtain ⟨a_b, c_b, hv_b⟩ := h2.form
  obtain ⟨nb, hn_b⟩ : ∃ n, n = b.length := ⟨_, rfl⟩
  rw [← hn_b] at hv_b ml_b
  subst hv_b
  have HN_b := hid hn_b
  clear hn_b h2
  have HW := hid (fun w => lawWakes14 HP HG w)
  have HB0 := hid (Below.refl w.heap.size w)
  by_cases hl_ns : ns ≤ 400
  · by_cases hl_nb : nb ≤ 400
    · have G1 := hid (fun v w h => HP v s size w h hi (by have := HN_s.out; omega))
      have G2 := hid (fun v w h => HG v b size w h hu (by have := HN_b.out; omega))
      have G4 := hid (fun v w h => refPut14 v s size w h (by have := HN_s.out; omega))
      have G5 := hid (fun v w h => refGet14 v b size w h hu (by have := HN_b.out; omega))
      generalize (wput size s).1 = PX at G1 G4
      generalize (wput size s).2.1 = PA at G1 G4
      generalize (wput size s).2.2 = PE at G1 G4
      generalize (wget size b).1 = GY at G2 G5
      generalize (wget size b).2.1 = GA at G2 G5
      generalize (wget size b).2.2 = GE at G2 G5
      clear HP HG hi hu
      go_enter Try.func3, Try.ntmps3
      go_wp2_with (first
        | (have _u := HB8; clear _u; go_at_call 13; refine (HW.out _).mono ?_; rintro e w9 ⟨rfl, hb9⟩; have HB9 := hid (HB8.out.trans (hb9.mono HB8.out.size)); clear hb9)
        | (have _u := HB7; clear _u; go_at_call 11; refine (keepBytes _ _ b b _ S_c_7.out S_b_7.out).mono ?_; rw [eqL_self]; rintro e w8 ⟨rfl, n8, hw8⟩; have hb8 : Below w7.heap.size w7 w8 := (by rw [hw8]; exact below_drewN n8); clear hw8; have HB8 := hid (HB7.out.trans (hb8.mono HB7.out.size)); clear hb8)
        | (have _u := HB6; clear _u; go_at_call 12; refine (keepInts _ _ GY GY _ S_y_6.out S_v_6.out).mono ?_; rw [eqL_self]; rintro e w7 ⟨rfl, n7, hw7⟩; have hb7 : Below w6.heap.size w6 w7 := (by rw [hw7]; exact below_drewN n7); clear hw7; have S_b_7 := hid (S_b_6.out.below hb7); have S_c_7 := hid (S_c_6.out.below hb7); have HB7 := hid (HB6.out.trans (hb7.mono HB6.out.size)); clear hb7)
        | (have _u := HB5; clear _u; go_at_call 11; refine (keepBytes _ _ PX PX _ S_x_5.out S_u_5.out).mono ?_; rw [eqL_self]; rintro e w6 ⟨rfl, n6, hw6⟩; have hb6 : Below w5.heap.size w5 w6 := (by rw [hw6]; exact below_drewN n6); clear hw6; have S_b_6 := hid (S_b_5.out.below hb6); have S_c_6 := hid (S_c_5.out.below hb6); have S_y_6 := hid (S_y_5.out.below hb6); have S_v_6 := hid (S_v_5.out.below hb6); have HB6 := hid (HB5.out.trans (hb6.mono HB5.out.size)); clear hb6)
        | (have _u := HB4; clear _u; go_at_call 10; with_reducible refine (G5.out _ _ S_b_4.out).mono ?_; rintro e w5 ⟨v5, rfl, ho5, hb5⟩; have S_b_5 := hid (S_b_4.out.below hb5); have S_c_5 := hid (S_c_4.out.below hb5); have S_x_5 := hid (S_x_4.out.below hb5); have S_y_5 := hid (S_y_4.out.below hb5); have S_u_5 := hid (S_u_4.out.below hb5); have S_v_5 := hid ho5; clear ho5; have HB5 := hid (HB4.out.trans (hb5.mono HB4.out.size)); clear hb5)
        | (have _u := HB3; clear _u; go_at_call 9; with_reducible refine (G4.out _ _ S_s_3.out).mono ?_; rintro e w4 ⟨v4, rfl, ho4, hb4⟩; have S_b_4 := hid (S_b_3.out.below hb4); have S_c_4 := hid (S_c_3.out.below hb4); have S_x_4 := hid (S_x_3.out.below hb4); have S_y_4 := hid (S_y_3.out.below hb4); have S_u_4 := hid ho4; clear ho4; have HB4 := hid (HB3.out.trans (hb4.mono HB3.out.size)); clear hb4)
        | (have _u := HB2; clear _u; go_at_call 8; with_reducible refine (G2.out _ _ S_c_2.out).mono ?_; rintro e w3 ⟨v3, rfl, ho3, hb3⟩; have S_s_3 := hid (S_s_2.out.below hb3); have S_b_3 := hid (S_b_2.out.below hb3); have S_c_3 := hid (S_c_2.out.below hb3); have S_x_3 := hid (S_x_2.out.below hb3); have S_y_3 := hid ho3; clear ho3; have HB3 := hid (HB2.out.trans (hb3.mono HB2.out.size)); clear hb3)
        | (have _u := HB1; clear _u; go_at_call 7; with_reducible refine (G1.out _ _ S_s_1.out).mono ?_; rintro e w2 ⟨v2, rfl, ho2, hb2⟩; have S_s_2 := hid (S_s_1.out.below hb2); have S_b_2 := hid (S_b_1.out.below hb2); have S_c_2 := hid (S_c_1.out.below hb2); have S_x_2 := hid ho2.sl; clear ho2; have HB2 := hid (HB1.out.trans (hb2.mono HB1.out.size)); clear hb2)
        | (have _u := HB0; clear _u; go_at_call 6; with_reducible refine (keepTwin _ b _ HS_b.out (by have := HN_b.out; omega)).mono ?_; rintro e w1 ⟨v1, rfl, ho1, hb1⟩; have S_s_1 := hid (HS_s.out.below hb1); have S_b_1 := hid (HS_b.out.below hb1); have S_c_1 := hid ho1.sl; clear ho1; have HB1 := hid (HB0.out.trans (hb1.mono HB0.out.size)); clear hb1))
      go_ret
      exact ⟨rfl, HB9.out⟩
    · have hf_nb : 400 < nb := by omega
      clear hl_nb HP HG
      go_enter Try.func3, Try.ntmps3
      go_wp2
      go_ret
      exact ⟨rfl, Below.refl _ _⟩
  · have hf_ns : 400 < ns := by omega
    clear hl_ns HP HG
    go_enter Try.func3, Try.ntmps3
    go_wp2
    go_ret
    exact ⟨rfl, Below.refl _ _⟩
end Go.Proofs.Ytcbijgmlmcpidaa
