/- Walk of law14's WideBack, out of what is asked of package wide. -/
import Derived.Test.YtcbijgmlmcpidaaWideOk
namespace Go.Proofs.Ytcbijgmlmcpidaa
theorem wput_inI {f : Bool} {s x : List Int} (h : wputB f s = .inl x) : s.all inI = true := List.all_eq_true.2 fun c hc => scalar_inI (wok_parts ((wput_get h).2.2.2 c hc)).1
open Go.RowKit

set_option maxRecDepth 10000 in
set_option maxHeartbeats 4000000 in
theorem walkBack14 (HP : WPutOk) (HG : WGetOk) (v1 v2 : Value) (s b : List Int) (four : Bool) (w : World) (h1 : Sl .i64 w v1 s) (h2 : Sl .u8 w v2 b) (hi : s.all inI = true) (hu : U8 b) :
    Calls Try.prog 4 #[v1, v2, .bool four] w fun e w' => e = .returned (.bool true) ∧ Below w.heap.size w w' := by
  have HS_s := hid h1
  have ml_s := h1.len
  obtain ⟨a_s, c_s, hv_s⟩ := h1.form
  obtain ⟨ns, hn_s⟩ : ∃ n, n = s.length := ⟨_, rfl⟩
  rw [← hn_s] at hv_s ml_s
  subst hv_s
  have HN_s := hid hn_s
  clear hn_s h1
  have HS_b := hid h2
  have ml_b := h2.len
  obtain ⟨a_b, c_b, hv_b⟩ := h2.form
  obtain ⟨nb, hn_b⟩ : ∃ n, n = b.length := ⟨_, rfl⟩
  rw [← hn_b] at hv_b ml_b
  subst hv_b
  have HN_b := hid hn_b
  clear hn_b h2
  have HW := hid (fun w => lawWakes14 HP HG w)
  have HB0 := hid (Below.refl w.heap.size w)
  by_cases hl_ns : ns ≤ 400
  · by_cases hl_nb : nb ≤ 400
    · cases four with
      | false =>
        have G1 := hid (fun v w h => HP v s 2 w h hi (by have := HN_s.out; omega))
        have G3 := hid (fun v w h => HG v b 2 w h hu (by have := HN_b.out; omega))
        rw [show wput 2 s = res3 14 (wputB false s) from rfl] at G1
        rw [show wget 2 b = wgetB false b from rfl] at G3
        cases hp : wputB false s with
        | inl x =>
          obtain ⟨hx1, hxl, hx3, -⟩ := wput_get hp
          have hxl : x.length = 2 * ns := by rw [hxl, HN_s.out]; rfl
          have G2 := hid (fun v w h => HG v x 2 w h hx3 (by have := HN_s.out; omega))
          rw [show wget 2 x = wgetB false x from rfl, hx1] at G2
          rw [hp] at G1
          simp only [res3, outAt, outE, outL] at G1
          obtain ⟨lx, hlx⟩ : ∃ lx, lx = x.length := ⟨_, rfl⟩
          have HLX := hid hlx
          have hlw : (2 : Int) * (ns : Int) = (lx : Int) := by omega
          have hlx1 : lx ≤ 1600 := by omega
          clear hx1 hxl hx3 hlx hp
          obtain ⟨GY, GA, GE, hg⟩ : ∃ y a e, wgetB false b = (y, a, e) := ⟨_, _, _, rfl⟩
          rw [hg] at G3
          by_cases he : GE = 0
          · subst he
            obtain ⟨hb1, hb2⟩ := wget_put hu hg
            have G4 := hid (fun v w h => HP v GY 2 w h (wput_inI hb1) (by have := HN_b.out; have hk : wk false = 2 := rfl; rw [hk] at hb2; omega))
            rw [show wput 2 GY = res3 14 (wputB false GY) from rfl, hb1] at G4
            simp only [res3, outAt, outE, outL] at G4
            clear HP HG hi hu hb1 hb2 hg
            go_enter Try.func4, Try.ntmps4
            go_wp2_with (first
              | (have _u := HB6; clear _u; go_at_call 13; refine (HW.out _).mono ?_; rintro e w7 ⟨rfl, hb7⟩; have HB7 := hid (HB6.out.trans (hb7.mono HB6.out.size)); clear hb7)
              | (have _u := HB5; clear _u; go_at_call 11; refine (keepBytes _ _ b b _ S_u_5.out S_b_5.out).mono ?_; rw [eqL_self]; rintro e w6 ⟨rfl, n6, hw6⟩; have hb6 : Below w5.heap.size w5 w6 := (by rw [hw6]; exact below_drewN n6); clear hw6; have HB6 := hid (HB5.out.trans (hb6.mono HB5.out.size)); clear hb6)
              | (have _u := HB4; clear _u; go_at_call 7; with_reducible refine (G4.out _ _ S_t_4.out).mono ?_; rintro e w5 ⟨v5, rfl, ho5, hb5⟩; have S_b_5 := hid (S_b_4.out.below hb5); have S_u_5 := hid ho5.sl; clear ho5; have HB5 := hid (HB4.out.trans (hb5.mono HB4.out.size)); clear hb5)
              | (have _u := HB3; clear _u; go_at_call 8; with_reducible refine (G3.out _ _ S_b_3.out).mono ?_; rintro e w4 ⟨v4, rfl, ho4, hb4⟩; have S_b_4 := hid (S_b_3.out.below hb4); have S_t_4 := hid ho4; clear ho4; have HB4 := hid (HB3.out.trans (hb4.mono HB3.out.size)); clear hb4)
              | (have _u := HB2; clear _u; go_at_call 12; refine (keepInts _ _ s s _ S_y_2.out S_s_2.out).mono ?_; rw [eqL_self]; rintro e w3 ⟨rfl, n3, hw3⟩; have hb3 : Below w2.heap.size w2 w3 := (by rw [hw3]; exact below_drewN n3); clear hw3; have S_b_3 := hid (S_b_2.out.below hb3); have HB3 := hid (HB2.out.trans (hb3.mono HB2.out.size)); clear hb3)
              | (have _u := HB1; clear _u; go_at_call 8; with_reducible refine (G2.out _ _ S_x_1.out).mono ?_; rintro e w2 ⟨v2, rfl, ho2, hb2⟩; have S_s_2 := hid (S_s_1.out.below hb2); have S_b_2 := hid (S_b_1.out.below hb2); have S_y_2 := hid ho2; clear ho2; have HB2 := hid (HB1.out.trans (hb2.mono HB1.out.size)); clear hb2)
              | (have _u := HB0; clear _u; go_at_call 7; with_reducible refine (G1.out _ _ HS_s.out).mono ?_; rintro e w1 ⟨v1, rfl, ho1, hb1⟩; obtain ⟨a1, c1, hv1⟩ := ho1.sl.form; rw [← HLX.out] at hv1; subst hv1; have S_s_1 := hid (HS_s.out.below hb1); have S_b_1 := hid (HS_b.out.below hb1); have S_x_1 := hid ho1.sl; clear ho1; have HB1 := hid (HB0.out.trans (hb1.mono HB0.out.size)); clear hb1))
            go_ret
            exact ⟨rfl, HB7.out⟩
          · clear HP HG hi hu hg
            go_enter Try.func4, Try.ntmps4
            go_wp2_with (first
              | (have _u := HB4; clear _u; go_at_call 13; refine (HW.out _).mono ?_; rintro e w5 ⟨rfl, hb5⟩; have HB5 := hid (HB4.out.trans (hb5.mono HB4.out.size)); clear hb5)
              | (have _u := HB3; clear _u; go_at_call 8; with_reducible refine (G3.out _ _ S_b_3.out).mono ?_; rintro e w4 ⟨v4, rfl, ho4, hb4⟩; clear ho4; have HB4 := hid (HB3.out.trans (hb4.mono HB3.out.size)); clear hb4)
              | (have _u := HB2; clear _u; go_at_call 12; refine (keepInts _ _ s s _ S_y_2.out S_s_2.out).mono ?_; rw [eqL_self]; rintro e w3 ⟨rfl, n3, hw3⟩; have hb3 : Below w2.heap.size w2 w3 := (by rw [hw3]; exact below_drewN n3); clear hw3; have S_b_3 := hid (S_b_2.out.below hb3); have HB3 := hid (HB2.out.trans (hb3.mono HB2.out.size)); clear hb3)
              | (have _u := HB1; clear _u; go_at_call 8; with_reducible refine (G2.out _ _ S_x_1.out).mono ?_; rintro e w2 ⟨v2, rfl, ho2, hb2⟩; have S_s_2 := hid (S_s_1.out.below hb2); have S_b_2 := hid (S_b_1.out.below hb2); have S_y_2 := hid ho2; clear ho2; have HB2 := hid (HB1.out.trans (hb2.mono HB1.out.size)); clear hb2)
              | (have _u := HB0; clear _u; go_at_call 7; with_reducible refine (G1.out _ _ HS_s.out).mono ?_; rintro e w1 ⟨v1, rfl, ho1, hb1⟩; obtain ⟨a1, c1, hv1⟩ := ho1.sl.form; rw [← HLX.out] at hv1; subst hv1; have S_s_1 := hid (HS_s.out.below hb1); have S_b_1 := hid (HS_b.out.below hb1); have S_x_1 := hid ho1.sl; clear ho1; have HB1 := hid (HB0.out.trans (hb1.mono HB0.out.size)); clear hb1))
            go_ret
            exact ⟨rfl, HB5.out⟩
        | inr k =>
          rw [hp] at G1
          simp only [res3, outAt, outE, outL] at G1
          clear hp
          obtain ⟨GY, GA, GE, hg⟩ : ∃ y a e, wgetB false b = (y, a, e) := ⟨_, _, _, rfl⟩
          rw [hg] at G3
          by_cases he : GE = 0
          · subst he
            obtain ⟨hb1, hb2⟩ := wget_put hu hg
            have G4 := hid (fun v w h => HP v GY 2 w h (wput_inI hb1) (by have := HN_b.out; have hk : wk false = 2 := rfl; rw [hk] at hb2; omega))
            rw [show wput 2 GY = res3 14 (wputB false GY) from rfl, hb1] at G4
            simp only [res3, outAt, outE, outL] at G4
            clear HP HG hi hu hb1 hb2 hg
            go_enter Try.func4, Try.ntmps4
            go_wp2_with (first
              | (have _u := HB4; clear _u; go_at_call 13; refine (HW.out _).mono ?_; rintro e w5 ⟨rfl, hb5⟩; have HB5 := hid (HB4.out.trans (hb5.mono HB4.out.size)); clear hb5)
              | (have _u := HB3; clear _u; go_at_call 11; refine (keepBytes _ _ b b _ S_u_3.out S_b_3.out).mono ?_; rw [eqL_self]; rintro e w4 ⟨rfl, n4, hw4⟩; have hb4 : Below w3.heap.size w3 w4 := (by rw [hw4]; exact below_drewN n4); clear hw4; have HB4 := hid (HB3.out.trans (hb4.mono HB3.out.size)); clear hb4)
              | (have _u := HB2; clear _u; go_at_call 7; with_reducible refine (G4.out _ _ S_t_2.out).mono ?_; rintro e w3 ⟨v3, rfl, ho3, hb3⟩; have S_b_3 := hid (S_b_2.out.below hb3); have S_u_3 := hid ho3.sl; clear ho3; have HB3 := hid (HB2.out.trans (hb3.mono HB2.out.size)); clear hb3)
              | (have _u := HB1; clear _u; go_at_call 8; with_reducible refine (G3.out _ _ S_b_1.out).mono ?_; rintro e w2 ⟨v2, rfl, ho2, hb2⟩; have S_b_2 := hid (S_b_1.out.below hb2); have S_t_2 := hid ho2; clear ho2; have HB2 := hid (HB1.out.trans (hb2.mono HB1.out.size)); clear hb2)
              | (have _u := HB0; clear _u; go_at_call 7; with_reducible refine (G1.out _ _ HS_s.out).mono ?_; rintro e w1 ⟨v1, rfl, ho1, hb1⟩; have S_b_1 := hid (HS_b.out.below hb1); clear ho1; have HB1 := hid (HB0.out.trans (hb1.mono HB0.out.size)); clear hb1))
            go_ret
            exact ⟨rfl, HB5.out⟩
          · clear HP HG hi hu hg
            go_enter Try.func4, Try.ntmps4
            go_wp2_with (first
              | (have _u := HB2; clear _u; go_at_call 13; refine (HW.out _).mono ?_; rintro e w3 ⟨rfl, hb3⟩; have HB3 := hid (HB2.out.trans (hb3.mono HB2.out.size)); clear hb3)
              | (have _u := HB1; clear _u; go_at_call 8; with_reducible refine (G3.out _ _ S_b_1.out).mono ?_; rintro e w2 ⟨v2, rfl, ho2, hb2⟩; clear ho2; have HB2 := hid (HB1.out.trans (hb2.mono HB1.out.size)); clear hb2)
              | (have _u := HB0; clear _u; go_at_call 7; with_reducible refine (G1.out _ _ HS_s.out).mono ?_; rintro e w1 ⟨v1, rfl, ho1, hb1⟩; have S_b_1 := hid (HS_b.out.below hb1); clear ho1; have HB1 := hid (HB0.out.trans (hb1.mono HB0.out.size)); clear hb1))
            go_ret
            exact ⟨rfl, HB3.out⟩
      | true =>
        have G1 := hid (fun v w h => HP v s 4 w h hi (by have := HN_s.out; omega))
        have G3 := hid (fun v w h => HG v b 4 w h hu (by have := HN_b.out; omega))
        rw [show wput 4 s = res3 14 (wputB true s) from rfl] at G1
        rw [show wget 4 b = wgetB true b from rfl] at G3
        cases hp : wputB true s with
        | inl x =>
          obtain ⟨hx1, hxl, hx3, -⟩ := wput_get hp
          have hxl : x.length = 4 * ns := by rw [hxl, HN_s.out]; rfl
          have G2 := hid (fun v w h => HG v x 4 w h hx3 (by have := HN_s.out; omega))
          rw [show wget 4 x = wgetB true x from rfl, hx1] at G2
          rw [hp] at G1
          simp only [res3, outAt, outE, outL] at G1
          obtain ⟨lx, hlx⟩ : ∃ lx, lx = x.length := ⟨_, rfl⟩
          have HLX := hid hlx
          have hlw : (4 : Int) * (ns : Int) = (lx : Int) := by omega
          have hlx1 : lx ≤ 1600 := by omega
          clear hx1 hxl hx3 hlx hp
          obtain ⟨GY, GA, GE, hg⟩ : ∃ y a e, wgetB true b = (y, a, e) := ⟨_, _, _, rfl⟩
          rw [hg] at G3
          by_cases he : GE = 0
          · subst he
            obtain ⟨hb1, hb2⟩ := wget_put hu hg
            have G4 := hid (fun v w h => HP v GY 4 w h (wput_inI hb1) (by have := HN_b.out; have hk : wk true = 4 := rfl; rw [hk] at hb2; omega))
            rw [show wput 4 GY = res3 14 (wputB true GY) from rfl, hb1] at G4
            simp only [res3, outAt, outE, outL] at G4
            clear HP HG hi hu hb1 hb2 hg
            go_enter Try.func4, Try.ntmps4
            go_wp2_with (first
              | (have _u := HB6; clear _u; go_at_call 13; refine (HW.out _).mono ?_; rintro e w7 ⟨rfl, hb7⟩; have HB7 := hid (HB6.out.trans (hb7.mono HB6.out.size)); clear hb7)
              | (have _u := HB5; clear _u; go_at_call 11; refine (keepBytes _ _ b b _ S_u_5.out S_b_5.out).mono ?_; rw [eqL_self]; rintro e w6 ⟨rfl, n6, hw6⟩; have hb6 : Below w5.heap.size w5 w6 := (by rw [hw6]; exact below_drewN n6); clear hw6; have HB6 := hid (HB5.out.trans (hb6.mono HB5.out.size)); clear hb6)
              | (have _u := HB4; clear _u; go_at_call 7; with_reducible refine (G4.out _ _ S_t_4.out).mono ?_; rintro e w5 ⟨v5, rfl, ho5, hb5⟩; have S_b_5 := hid (S_b_4.out.below hb5); have S_u_5 := hid ho5.sl; clear ho5; have HB5 := hid (HB4.out.trans (hb5.mono HB4.out.size)); clear hb5)
              | (have _u := HB3; clear _u; go_at_call 8; with_reducible refine (G3.out _ _ S_b_3.out).mono ?_; rintro e w4 ⟨v4, rfl, ho4, hb4⟩; have S_b_4 := hid (S_b_3.out.below hb4); have S_t_4 := hid ho4; clear ho4; have HB4 := hid (HB3.out.trans (hb4.mono HB3.out.size)); clear hb4)
              | (have _u := HB2; clear _u; go_at_call 12; refine (keepInts _ _ s s _ S_y_2.out S_s_2.out).mono ?_; rw [eqL_self]; rintro e w3 ⟨rfl, n3, hw3⟩; have hb3 : Below w2.heap.size w2 w3 := (by rw [hw3]; exact below_drewN n3); clear hw3; have S_b_3 := hid (S_b_2.out.below hb3); have HB3 := hid (HB2.out.trans (hb3.mono HB2.out.size)); clear hb3)
              | (have _u := HB1; clear _u; go_at_call 8; with_reducible refine (G2.out _ _ S_x_1.out).mono ?_; rintro e w2 ⟨v2, rfl, ho2, hb2⟩; have S_s_2 := hid (S_s_1.out.below hb2); have S_b_2 := hid (S_b_1.out.below hb2); have S_y_2 := hid ho2; clear ho2; have HB2 := hid (HB1.out.trans (hb2.mono HB1.out.size)); clear hb2)
              | (have _u := HB0; clear _u; go_at_call 7; with_reducible refine (G1.out _ _ HS_s.out).mono ?_; rintro e w1 ⟨v1, rfl, ho1, hb1⟩; obtain ⟨a1, c1, hv1⟩ := ho1.sl.form; rw [← HLX.out] at hv1; subst hv1; have S_s_1 := hid (HS_s.out.below hb1); have S_b_1 := hid (HS_b.out.below hb1); have S_x_1 := hid ho1.sl; clear ho1; have HB1 := hid (HB0.out.trans (hb1.mono HB0.out.size)); clear hb1))
            go_ret
            exact ⟨rfl, HB7.out⟩
          · clear HP HG hi hu hg
            go_enter Try.func4, Try.ntmps4
            go_wp2_with (first
              | (have _u := HB4; clear _u; go_at_call 13; refine (HW.out _).mono ?_; rintro e w5 ⟨rfl, hb5⟩; have HB5 := hid (HB4.out.trans (hb5.mono HB4.out.size)); clear hb5)
              | (have _u := HB3; clear _u; go_at_call 8; with_reducible refine (G3.out _ _ S_b_3.out).mono ?_; rintro e w4 ⟨v4, rfl, ho4, hb4⟩; clear ho4; have HB4 := hid (HB3.out.trans (hb4.mono HB3.out.size)); clear hb4)
              | (have _u := HB2; clear _u; go_at_call 12; refine (keepInts _ _ s s _ S_y_2.out S_s_2.out).mono ?_; rw [eqL_self]; rintro e w3 ⟨rfl, n3, hw3⟩; have hb3 : Below w2.heap.size w2 w3 := (by rw [hw3]; exact below_drewN n3); clear hw3; have S_b_3 := hid (S_b_2.out.below hb3); have HB3 := hid (HB2.out.trans (hb3.mono HB2.out.size)); clear hb3)
              | (have _u := HB1; clear _u; go_at_call 8; with_reducible refine (G2.out _ _ S_x_1.out).mono ?_; rintro e w2 ⟨v2, rfl, ho2, hb2⟩; have S_s_2 := hid (S_s_1.out.below hb2); have S_b_2 := hid (S_b_1.out.below hb2); have S_y_2 := hid ho2; clear ho2; have HB2 := hid (HB1.out.trans (hb2.mono HB1.out.size)); clear hb2)
              | (have _u := HB0; clear _u; go_at_call 7; with_reducible refine (G1.out _ _ HS_s.out).mono ?_; rintro e w1 ⟨v1, rfl, ho1, hb1⟩; obtain ⟨a1, c1, hv1⟩ := ho1.sl.form; rw [← HLX.out] at hv1; subst hv1; have S_s_1 := hid (HS_s.out.below hb1); have S_b_1 := hid (HS_b.out.below hb1); have S_x_1 := hid ho1.sl; clear ho1; have HB1 := hid (HB0.out.trans (hb1.mono HB0.out.size)); clear hb1))
            go_ret
            exact ⟨rfl, HB5.out⟩
        | inr k =>
          rw [hp] at G1
          simp only [res3, outAt, outE, outL] at G1
          clear hp
          obtain ⟨GY, GA, GE, hg⟩ : ∃ y a e, wgetB true b = (y, a, e) := ⟨_, _, _, rfl⟩
          rw [hg] at G3
          by_cases he : GE = 0
          · subst he
            obtain ⟨hb1, hb2⟩ := wget_put hu hg
            have G4 := hid (fun v w h => HP v GY 4 w h (wput_inI hb1) (by have := HN_b.out; have hk : wk true = 4 := rfl; rw [hk] at hb2; omega))
            rw [show wput 4 GY = res3 14 (wputB true GY) from rfl, hb1] at G4
            simp only [res3, outAt, outE, outL] at G4
            clear HP HG hi hu hb1 hb2 hg
            go_enter Try.func4, Try.ntmps4
            go_wp2_with (first
              | (have _u := HB4; clear _u; go_at_call 13; refine (HW.out _).mono ?_; rintro e w5 ⟨rfl, hb5⟩; have HB5 := hid (HB4.out.trans (hb5.mono HB4.out.size)); clear hb5)
              | (have _u := HB3; clear _u; go_at_call 11; refine (keepBytes _ _ b b _ S_u_3.out S_b_3.out).mono ?_; rw [eqL_self]; rintro e w4 ⟨rfl, n4, hw4⟩; have hb4 : Below w3.heap.size w3 w4 := (by rw [hw4]; exact below_drewN n4); clear hw4; have HB4 := hid (HB3.out.trans (hb4.mono HB3.out.size)); clear hb4)
              | (have _u := HB2; clear _u; go_at_call 7; with_reducible refine (G4.out _ _ S_t_2.out).mono ?_; rintro e w3 ⟨v3, rfl, ho3, hb3⟩; have S_b_3 := hid (S_b_2.out.below hb3); have S_u_3 := hid ho3.sl; clear ho3; have HB3 := hid (HB2.out.trans (hb3.mono HB2.out.size)); clear hb3)
              | (have _u := HB1; clear _u; go_at_call 8; with_reducible refine (G3.out _ _ S_b_1.out).mono ?_; rintro e w2 ⟨v2, rfl, ho2, hb2⟩; have S_b_2 := hid (S_b_1.out.below hb2); have S_t_2 := hid ho2; clear ho2; have HB2 := hid (HB1.out.trans (hb2.mono HB1.out.size)); clear hb2)
              | (have _u := HB0; clear _u; go_at_call 7; with_reducible refine (G1.out _ _ HS_s.out).mono ?_; rintro e w1 ⟨v1, rfl, ho1, hb1⟩; have S_b_1 := hid (HS_b.out.below hb1); clear ho1; have HB1 := hid (HB0.out.trans (hb1.mono HB0.out.size)); clear hb1))
            go_ret
            exact ⟨rfl, HB5.out⟩
          · clear HP HG hi hu hg
            go_enter Try.func4, Try.ntmps4
            go_wp2_with (first
              | (have _u := HB2; clear _u; go_at_call 13; refine (HW.out _).mono ?_; rintro e w3 ⟨rfl, hb3⟩; have HB3 := hid (HB2.out.trans (hb3.mono HB2.out.size)); clear hb3)
              | (have _u := HB1; clear _u; go_at_call 8; with_reducible refine (G3.out _ _ S_b_1.out).mono ?_; rintro e w2 ⟨v2, rfl, ho2, hb2⟩; clear ho2; have HB2 := hid (HB1.out.trans (hb2.mono HB1.out.size)); clear hb2)
              | (have _u := HB0; clear _u; go_at_call 7; with_reducible refine (G1.out _ _ HS_s.out).mono ?_; rintro e w1 ⟨v1, rfl, ho1, hb1⟩; have S_b_1 := hid (HS_b.out.below hb1); clear ho1; have HB1 := hid (HB0.out.trans (hb1.mono HB0.out.size)); clear hb1))
            go_ret
            exact ⟨rfl, HB3.out⟩
    · have hf_nb : 400 < nb := by omega
      clear hl_nb HP HG
      go_enter Try.func4, Try.ntmps4
      go_wp2
      go_ret
      exact ⟨rfl, Below.refl _ _⟩
  · have hf_ns : 400 < ns := by omega
    clear hl_ns HP HG
    go_enter Try.func4, Try.ntmps4
    go_wp2
    go_ret
    exact ⟨rfl, Below.refl _ _⟩
end Go.Proofs.Ytcbijgmlmcpidaa
