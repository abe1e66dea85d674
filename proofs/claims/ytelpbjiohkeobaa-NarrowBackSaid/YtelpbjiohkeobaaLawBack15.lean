/- Walk of law15's NarrowBack, out of what is asked of package narrow. -/
import Derived.Test.YtelpbjiohkeobaaNarOk
namespace Go.Proofs.Ytelpbjiohkeobaa
theorem u8_inI {b : List Int} (h : U8 b) : b.all inI = true := List.all_eq_true.2 fun x hx => inI_of (by have := h x hx; omega)
open Go.RowKit

set_option maxRecDepth 10000 in
set_option maxHeartbeats 4000000 in
theorem walkBack15 (HP : NPutOk) (HG : NGetOk) (HH : NHasOk) (k : Int) (v1 v2 : Value) (s b : List Int) (w : World) (h1 : Sl .i64 w v1 s) (hi : s.all inI = true) (h2 : Sl .u8 w v2 b) (hu : U8 b) :
    Calls Try.prog 4 #[.int .i64 k, v1, v2] w fun e w' => e = .returned (.bool true) ∧ Below w.heap.size w w' := by
  have HS_s := hid h1
  have ml_s := h1.len
  obtain ⟨a_s, c_s, hv_s⟩ := h1.form
  obtain ⟨ns, hn_s⟩ : ∃ n, n = s.length := ⟨_, rfl⟩
  rw [← hn_s] at hv_s ml_s
  subst hv_s
  have HN_s := hid hn_s
  clear hn_s h1
  have HS_b := hid h2
  have ml_b := h2.len
  obtain ⟨a_b, c_b, hv_b⟩ := h2.form
  obtain ⟨nb, hn_b⟩ : ∃ n, n = b.length := ⟨_, rfl⟩
  rw [← hn_b] at hv_b ml_b
  subst hv_b
  have HN_b := hid hn_b
  clear hn_b h2
  have HW := hid (fun w => lawWakes15 HP HG HH w)
  have HB0 := hid (Below.refl w.heap.size w)
  by_cases hl_ns : ns ≤ 400
  · by_cases hl_nb : nb ≤ 400
    · have G1 := hid (fun v w h => HP k v s w h hi (by have := HN_s.out; omega))
      have G3 := hid (fun v w h => HG k v b w h hu (by have := HN_b.out; omega))
      obtain ⟨PX, PA, PE, hp⟩ : ∃ y a e, nput k s = (y, a, e) := ⟨_, _, _, rfl⟩
      rw [hp] at G1
      by_cases hpe : PE = 0
      · subst hpe
        obtain ⟨rfl, hx1, hx2⟩ := nput_ok hp
        have G2 := hid (fun v w h => HG k v PX w h hx2 (by have := HN_s.out; omega))
        rw [hx1] at G2
        have HNR := HN_s
        clear hx1 hx2 hp
        obtain ⟨GY, GA, GE, hg⟩ : ∃ y a e, nget k b = (y, a, e) := ⟨_, _, _, rfl⟩
        rw [hg] at G3
        by_cases he : GE = 0
        · subst he
          obtain ⟨rfl, hb2⟩ := nget_ok hg
          have G4 := hid (fun v w h => HP k v GY w h (u8_inI hu) (by have := HN_b.out; omega))
          rw [hb2] at G4
          clear HP HG HH hi hu hb2 hg
          go_enter Try.func4, Try.ntmps4
          go_wp2_with (first
            | (have _u := HB6; clear _u; go_at_call 16; refine (HW.out _).mono ?_; rintro e w7 ⟨rfl, hb7⟩; have HB7 := hid (HB6.out.trans (hb7.mono HB6.out.size)); clear hb7)
            | (have _u := HB5; clear _u; go_at_call 14; refine (keepBytes _ _ GY GY _ S_u_5.out S_b_5.out).mono ?_; rw [eqL_self]; rintro e w6 ⟨rfl, n6, hw6⟩; have hb6 : Below w5.heap.size w5 w6 := (by rw [hw6]; exact below_drewN n6); clear hw6; have HB6 := hid (HB5.out.trans (hb6.mono HB5.out.size)); clear hb6)
            | (have _u := HB4; clear _u; go_at_call 8; with_reducible refine (G4.out _ _ S_t_4.out).mono ?_; rintro e w5 ⟨v5, rfl, ho5, hb5⟩; have S_b_5 := hid (S_b_4.out.below hb5); have S_u_5 := hid ho5.sl; clear ho5; have HB5 := hid (HB4.out.trans (hb5.mono HB4.out.size)); clear hb5)
            | (have _u := HB3; clear _u; go_at_call 9; with_reducible refine (G3.out _ _ S_b_3.out).mono ?_; rintro e w4 ⟨v4, rfl, ho4, hb4⟩; have S_b_4 := hid (S_b_3.out.below hb4); have S_t_4 := hid ho4; clear ho4; have HB4 := hid (HB3.out.trans (hb4.mono HB3.out.size)); clear hb4)
            | (have _u := HB2; clear _u; go_at_call 15; refine (keepInts _ _ PX PX _ S_y_2.out S_s_2.out).mono ?_; rw [eqL_self]; rintro e w3 ⟨rfl, n3, hw3⟩; have hb3 : Below w2.heap.size w2 w3 := (by rw [hw3]; exact below_drewN n3); clear hw3; have S_b_3 := hid (S_b_2.out.below hb3); have HB3 := hid (HB2.out.trans (hb3.mono HB2.out.size)); clear hb3)
            | (have _u := HB1; clear _u; go_at_call 9; with_reducible refine (G2.out _ _ S_x_1.out).mono ?_; rintro e w2 ⟨v2, rfl, ho2, hb2⟩; have S_s_2 := hid (S_s_1.out.below hb2); have S_b_2 := hid (S_b_1.out.below hb2); have S_y_2 := hid ho2; clear ho2; have HB2 := hid (HB1.out.trans (hb2.mono HB1.out.size)); clear hb2)
            | (have _u := HB0; clear _u; go_at_call 8; with_reducible refine (G1.out _ _ HS_s.out).mono ?_; rintro e w1 ⟨v1, rfl, ho1, hb1⟩; obtain ⟨a1, c1, hv1⟩ := ho1.sl.form; rw [← HNR.out] at hv1; subst hv1; have S_s_1 := hid (HS_s.out.below hb1); have S_b_1 := hid (HS_b.out.below hb1); have S_x_1 := hid ho1.sl; clear ho1; have HB1 := hid (HB0.out.trans (hb1.mono HB0.out.size)); clear hb1))
          go_ret
          exact ⟨rfl, HB7.out⟩
        · clear HP HG HH hi hu hg
          go_enter Try.func4, Try.ntmps4
          go_wp2_with (first
            | (have _u := HB4; clear _u; go_at_call 16; refine (HW.out _).mono ?_; rintro e w5 ⟨rfl, hb5⟩; have HB5 := hid (HB4.out.trans (hb5.mono HB4.out.size)); clear hb5)
            | (have _u := HB3; clear _u; go_at_call 9; with_reducible refine (G3.out _ _ S_b_3.out).mono ?_; rintro e w4 ⟨v4, rfl, ho4, hb4⟩; clear ho4; have HB4 := hid (HB3.out.trans (hb4.mono HB3.out.size)); clear hb4)
            | (have _u := HB2; clear _u; go_at_call 15; refine (keepInts _ _ PX PX _ S_y_2.out S_s_2.out).mono ?_; rw [eqL_self]; rintro e w3 ⟨rfl, n3, hw3⟩; have hb3 : Below w2.heap.size w2 w3 := (by rw [hw3]; exact below_drewN n3); clear hw3; have S_b_3 := hid (S_b_2.out.below hb3); have HB3 := hid (HB2.out.trans (hb3.mono HB2.out.size)); clear hb3)
            | (have _u := HB1; clear _u; go_at_call 9; with_reducible refine (G2.out _ _ S_x_1.out).mono ?_; rintro e w2 ⟨v2, rfl, ho2, hb2⟩; have S_s_2 := hid (S_s_1.out.below hb2); have S_b_2 := hid (S_b_1.out.below hb2); have S_y_2 := hid ho2; clear ho2; have HB2 := hid (HB1.out.trans (hb2.mono HB1.out.size)); clear hb2)
            | (have _u := HB0; clear _u; go_at_call 8; with_reducible refine (G1.out _ _ HS_s.out).mono ?_; rintro e w1 ⟨v1, rfl, ho1, hb1⟩; obtain ⟨a1, c1, hv1⟩ := ho1.sl.form; rw [← HNR.out] at hv1; subst hv1; have S_s_1 := hid (HS_s.out.below hb1); have S_b_1 := hid (HS_b.out.below hb1); have S_x_1 := hid ho1.sl; clear ho1; have HB1 := hid (HB0.out.trans (hb1.mono HB0.out.size)); clear hb1))
          go_ret
          exact ⟨rfl, HB5.out⟩
      · clear hp
        obtain ⟨GY, GA, GE, hg⟩ : ∃ y a e, nget k b = (y, a, e) := ⟨_, _, _, rfl⟩
        rw [hg] at G3
        by_cases he : GE = 0
        · subst he
          obtain ⟨rfl, hb2⟩ := nget_ok hg
          have G4 := hid (fun v w h => HP k v GY w h (u8_inI hu) (by have := HN_b.out; omega))
          rw [hb2] at G4
          clear HP HG HH hi hu hb2 hg
          go_enter Try.func4, Try.ntmps4
          go_wp2_with (first
            | (have _u := HB4; clear _u; go_at_call 16; refine (HW.out _).mono ?_; rintro e w5 ⟨rfl, hb5⟩; have HB5 := hid (HB4.out.trans (hb5.mono HB4.out.size)); clear hb5)
            | (have _u := HB3; clear _u; go_at_call 14; refine (keepBytes _ _ GY GY _ S_u_3.out S_b_3.out).mono ?_; rw [eqL_self]; rintro e w4 ⟨rfl, n4, hw4⟩; have hb4 : Below w3.heap.size w3 w4 := (by rw [hw4]; exact below_drewN n4); clear hw4; have HB4 := hid (HB3.out.trans (hb4.mono HB3.out.size)); clear hb4)
            | (have _u := HB2; clear _u; go_at_call 8; with_reducible refine (G4.out _ _ S_t_2.out).mono ?_; rintro e w3 ⟨v3, rfl, ho3, hb3⟩; have S_b_3 := hid (S_b_2.out.below hb3); have S_u_3 := hid ho3.sl; clear ho3; have HB3 := hid (HB2.out.trans (hb3.mono HB2.out.size)); clear hb3)
            | (have _u := HB1; clear _u; go_at_call 9; with_reducible refine (G3.out _ _ S_b_1.out).mono ?_; rintro e w2 ⟨v2, rfl, ho2, hb2⟩; have S_b_2 := hid (S_b_1.out.below hb2); have S_t_2 := hid ho2; clear ho2; have HB2 := hid (HB1.out.trans (hb2.mono HB1.out.size)); clear hb2)
            | (have _u := HB0; clear _u; go_at_call 8; with_reducible refine (G1.out _ _ HS_s.out).mono ?_; rintro e w1 ⟨v1, rfl, ho1, hb1⟩; have S_b_1 := hid (HS_b.out.below hb1); clear ho1; have HB1 := hid (HB0.out.trans (hb1.mono HB0.out.size)); clear hb1))
          go_ret
          exact ⟨rfl, HB5.out⟩
        · clear HP HG HH hi hu hg
          go_enter Try.func4, Try.ntmps4
          go_wp2_with (first
            | (have _u := HB2; clear _u; go_at_call 16; refine (HW.out _).mono ?_; rintro e w3 ⟨rfl, hb3⟩; have HB3 := hid (HB2.out.trans (hb3.mono HB2.out.size)); clear hb3)
            | (have _u := HB1; clear _u; go_at_call 9; with_reducible refine (G3.out _ _ S_b_1.out).mono ?_; rintro e w2 ⟨v2, rfl, ho2, hb2⟩; clear ho2; have HB2 := hid (HB1.out.trans (hb2.mono HB1.out.size)); clear hb2)
            | (have _u := HB0; clear _u; go_at_call 8; with_reducible refine (G1.out _ _ HS_s.out).mono ?_; rintro e w1 ⟨v1, rfl, ho1, hb1⟩; have S_b_1 := hid (HS_b.out.below hb1); clear ho1; have HB1 := hid (HB0.out.trans (hb1.mono HB0.out.size)); clear hb1))
          go_ret
          exact ⟨rfl, HB3.out⟩
    · have hf_nb : 400 < nb := by omega
      clear hl_nb HP HG HH
      go_enter Try.func4, Try.ntmps4
      go_wp2
      go_ret
      exact ⟨rfl, Below.refl _ _⟩
  · have hf_ns : 400 < ns := by omega
    clear hl_ns HP HG HH
    go_enter Try.func4, Try.ntmps4
    go_wp2
    go_ret
    exact ⟨rfl, Below.refl _ _⟩
end Go.Proofs.Ytelpbjiohkeobaa
