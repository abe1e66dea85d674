/- Walk of law13's Utf8Parts, out of what is asked of package utf8. -/
import Derived.Test.YtajncbohgialaaaU8Ok
import Derived.Test.YtajncbohgialaaaTwin
import Derived.Test.YtajncbohgialaaaTwinInts
import Derived.Test.YtajncbohgialaaaRefSc
import Derived.Test.YtajncbohgialaaaGuarded
namespace Go.Proofs.Ytajncbohgialaaa
theorem refScalarB (c : Int) (w : World) : Calls Try.prog 19 #[.int .i64 c] w fun e w' => e = .returned (.bool (scalarB c)) ∧ Go.RowKit.Below w.heap.size w w' := (refScalar6 c w).mono fun e w' h => by
  obtain ⟨h1, rfl⟩ := h
  exact ⟨h1, Go.RowKit.Below.refl _ _⟩
open Go.RowKit

set_option maxRecDepth 10000 in
set_option maxHeartbeats 4000000 in
theorem walkParts13 (HP : UPutOk) (HG : UGetOk) (v1 v2 v3 : Value) (a b c : List Int) (w : World) (h1 : Sl .i64 w v1 a) (h2 : Sl .i64 w v2 b) (h3 : Sl .u8 w v3 c) (hia : a.all inI = true) (hib : b.all inI = true) (hu : U8 c) :
    Calls Try.prog 5 #[v1, v2, v3] w fun e w' => e = .returned (.bool true) ∧ Below w.heap.size w w' := by
  have HS_a := hid h1
  have ml_a := h1.len
  obtain ⟨a_a, c_a, hv_a⟩ := h1.form
  obtain ⟨na, hn_a⟩ : ∃ n, n = a.length := ⟨_, rfl⟩
  rw [← hn_a] at hv_a ml_a
  subst hv_a
  have HN_a := hid hn_a
  clear hn_a h1
  have HS_b := hid h2
  have ml_b := h2.len
  obtain ⟨a_b, c_b, hv_b⟩ := h2.form
  obtain ⟨nb, hn_b⟩ : ∃ n, n = b.length := ⟨_, rfl⟩
  rw [← hn_b] at hv_b ml_b
  subst hv_b
  have HN_b := hid hn_b
  clear hn_b h2
  have HS_c := hid h3
  have ml_c := h3.len
  obtain ⟨a_c, c_c, hv_c⟩ := h3.form
  obtain ⟨nc, hn_c⟩ : ∃ n, n = c.length := ⟨_, rfl⟩
  rw [← hn_c] at hv_c ml_c
  subst hv_c
  have HN_c := hid hn_c
  clear hn_c h3
  have HW := hid (fun w => lawWakes13 HP HG w)
  have HB0 := hid (Below.refl w.heap.size w)
  by_cases hl_na : na ≤ 400
  · by_cases hl_nb : nb ≤ 400
    · by_cases hl_nc : nc ≤ 400
      · have G1 := hid (fun v w h => HP v a w h hia (by have := HN_a.out; omega))
        have G2 := hid (fun v w h => HP v b w h hib (by have := HN_b.out; omega))
        have G3 := hid (fun v w h => HP v (a ++ b) w h (by rw [List.all_append, hia, hib]; rfl) (by rw [List.length_append]; have := HN_a.out; have := HN_b.out; omega))
        have hab := put_app a b
        cases hp : putU a with
        | inr k =>
          obtain ⟨hk, hbad⟩ := put_bad hp
          have hk : k < na := by have := HN_a.out; omega
          rw [hp] at G1 hab
          simp only at hab
          rw [hab] at G3
          simp only [outAt, outE, outL] at G1 G3
          generalize outL (putU b) = QX at G2
          generalize outAt (putU b) = QA at G2
          generalize outE 14 (putU b) = QE at G2
          obtain ⟨a2, c2, hv2, hq2, -, h2⟩ := HS_a.out
          injection hv2 with e1 e2 e3
          subst e1 e3
          rcases h2 with hcc | ⟨b1, o1, rfl, hbb, hc⟩
          · have := HN_a.out
            omega
          have hb1 := hbb (by have := HN_a.out; omega)
          have d0 := hc k (by have := HN_a.out; omega)
          have G4 := hid (fun w => refScalarB (a.getD k 0) w)
          rw [hbad] at G4
          generalize a.getD k 0 = ak at d0 G4
          clear HP HG hia hib hu hp hab hbad hbb hc hq2 e2
          go_enter Try.func5, Try.ntmps5
          go_wp2_with (first
            | (have _u := HB6; clear _u; go_at_call 17; refine (HW.out _).mono ?_; rintro e w7 ⟨rfl, hb7⟩; have HB7 := hid (HB6.out.trans (hb7.mono HB6.out.size)); clear hb7)
            | (have _u := HB5; clear _u; go_at_call 19; refine (G4.out _).mono ?_; rintro e w6 ⟨rfl, hb6⟩; have HB6 := hid (HB5.out.trans (hb6.mono HB5.out.size)); clear hb6)
            | (have _u := HB4; clear _u; go_at_call 9; with_reducible refine (G3.out _ _ S_ab_4.out).mono ?_; rintro e w5 ⟨v5, rfl, ho5, hb5⟩; obtain ⟨a5, c5, hv5⟩ := ho5.form; simp only [List.length_nil] at hv5; subst hv5; clear ho5; have d1 := ((HB4.out.trans (hb5.mono HB4.out.size)).cell (p := ⟨b1, o1 + k, none⟩) hb1).trans d0; have HB5 := hid (HB4.out.trans (hb5.mono HB4.out.size)); clear hb5)
            | (have _u := HB3; clear _u; at_builtin; go_loud (refine wpList_app _ rfl _ _ 22 rfl .i64 w2.heap.size 3 8 Try.underlying22 Try.infoI64 _ a b rfl O_t.out _ rfl S_b_3.out (by have := HN_a.out; have := HN_b.out; unfold maxLen; omega) (by have := HN_a.out; have := HN_b.out; omega) HQ3.out.size ?_); intro v4 w4 ho4 hg4 hb4 hn4; clear hg4 hn4; have S_ab_4 := hid ho4.sl; have HB4 := hid (HB2.out.trans ((HQ3.out.trans hb4).mono HB2.out.size)); clear hb4 ho4)
            | (have _u := HB2; clear _u; go_at_call 18; with_reducible refine (keepTwinInts _ a _ S_a_2.out (by have := HN_a.out; omega)).mono ?_; rintro e w3 ⟨v3, rfl, ho3, hb3⟩; have S_b_3 := hid (S_b_2.out.below hb3); have O_t := hid ho3; have HQ3 := hid hb3; clear ho3; have HB3 := hid (HB2.out.trans (hb3.mono HB2.out.size)); clear hb3)
            | (have _u := HB1; clear _u; go_at_call 9; with_reducible refine (G2.out _ _ S_b_1.out).mono ?_; rintro e w2 ⟨v2, rfl, ho2, hb2⟩; have S_a_2 := hid (S_a_1.out.below hb2); have S_b_2 := hid (S_b_1.out.below hb2); clear ho2; have HB2 := hid (HB1.out.trans (hb2.mono HB1.out.size)); clear hb2)
            | (have _u := HB0; clear _u; go_at_call 9; with_reducible refine (G1.out _ _ HS_a.out).mono ?_; rintro e w1 ⟨v1, rfl, ho1, hb1⟩; have S_a_1 := hid (HS_a.out.below hb1); have S_b_1 := hid (HS_b.out.below hb1); clear ho1; have HB1 := hid (HB0.out.trans (hb1.mono HB0.out.size)); clear hb1))
          go_ret
          exact ⟨rfl, HB7.out⟩
        | inl x =>
          have hxl := put_len hp
          rw [hp] at G1 hab
          cases hq : putU b with
          | inr k =>
            have hk := (put_bad hq).1
            rw [hq] at G2 hab
            simp only at hab
            have eA : a.length = na := HN_a.out.symm
            rw [eA] at hab
            rw [hab] at G3
            simp only [outAt, outE, outL] at G1 G2 G3
            have hk2 : k < nb := by have := HN_b.out; omega
            have hkw : (((na + k : Nat)) : Int) = (na : Int) + (k : Int) := by omega
            rw [hkw] at G3
            clear HP HG hia hib hu hp hq hab hxl eA hk hkw
            go_enter Try.func5, Try.ntmps5
            go_wp2_with (first
              | (have _u := HB5; clear _u; go_at_call 17; refine (HW.out _).mono ?_; rintro e w6 ⟨rfl, hb6⟩; have HB6 := hid (HB5.out.trans (hb6.mono HB5.out.size)); clear hb6)
              | (have _u := HB4; clear _u; go_at_call 9; with_reducible refine (G3.out _ _ S_ab_4.out).mono ?_; rintro e w5 ⟨v5, rfl, ho5, hb5⟩; obtain ⟨a5, c5, hv5⟩ := ho5.form; simp only [List.length_nil] at hv5; subst hv5; clear ho5; have HB5 := hid (HB4.out.trans (hb5.mono HB4.out.size)); clear hb5)
              | (have _u := HB3; clear _u; at_builtin; go_loud (refine wpList_app _ rfl _ _ 22 rfl .i64 w2.heap.size 3 8 Try.underlying22 Try.infoI64 _ a b rfl O_t.out _ rfl S_b_3.out (by have := HN_a.out; have := HN_b.out; unfold maxLen; omega) (by have := HN_a.out; have := HN_b.out; omega) HQ3.out.size ?_); intro v4 w4 ho4 hg4 hb4 hn4; clear hg4 hn4; have S_ab_4 := hid ho4.sl; have HB4 := hid (HB2.out.trans ((HQ3.out.trans hb4).mono HB2.out.size)); clear hb4 ho4)
              | (have _u := HB2; clear _u; go_at_call 18; with_reducible refine (keepTwinInts _ a _ S_a_2.out (by have := HN_a.out; omega)).mono ?_; rintro e w3 ⟨v3, rfl, ho3, hb3⟩; have S_b_3 := hid (S_b_2.out.below hb3); have O_t := hid ho3; have HQ3 := hid hb3; clear ho3; have HB3 := hid (HB2.out.trans (hb3.mono HB2.out.size)); clear hb3)
              | (have _u := HB1; clear _u; go_at_call 9; with_reducible refine (G2.out _ _ S_b_1.out).mono ?_; rintro e w2 ⟨v2, rfl, ho2, hb2⟩; have S_a_2 := hid (S_a_1.out.below hb2); have S_b_2 := hid (S_b_1.out.below hb2); clear ho2; have HB2 := hid (HB1.out.trans (hb2.mono HB1.out.size)); clear hb2)
              | (have _u := HB0; clear _u; go_at_call 9; with_reducible refine (G1.out _ _ HS_a.out).mono ?_; rintro e w1 ⟨v1, rfl, ho1, hb1⟩; have S_a_1 := hid (HS_a.out.below hb1); have S_b_1 := hid (HS_b.out.below hb1); clear ho1; have HB1 := hid (HB0.out.trans (hb1.mono HB0.out.size)); clear hb1))
            go_ret
            exact ⟨rfl, HB6.out⟩
          | inl y =>
            have hyl := put_len hq
            have hux := put_u8 hp
            rw [hq] at G2 hab
            simp only at hab
            rw [hab] at G3
            simp only [outAt, outE, outL] at G1 G2 G3
            have HUX : U8 (x ++ c) := fun z hz => by
              rcases List.mem_append.1 hz with hz | hz
              · exact hux z hz
              · exact hu z hz
            have hx1 : x.length ≤ 1600 := by have := HN_a.out; omega
            have hy1 : y.length ≤ 1600 := by have := HN_b.out; omega
            have G5 := hid (fun v w h => HG v (x ++ c) w h HUX (by rw [List.length_append]; have := HN_c.out; omega))
            have G6 := hid (fun v w h => HG v c w h hu (by have := HN_c.out; omega))
            have hgc := get_app c hp
            obtain ⟨lx, hlx⟩ : ∃ lx, lx = x.length := ⟨_, rfl⟩
            have HLX := hid hlx
            rw [← hlx] at hgc
            have hlx1 : lx ≤ 1600 := by omega
            clear HP HG hia hib hp hq hab hux HUX hlx hxl hyl
            cases hg : getU c with
            | inl t =>
              rw [hg] at G6 hgc
              simp only at hgc
              rw [hgc] at G5
              simp only [outAt, outE, outL] at G5 G6
              clear hg hgc hu
              go_enter Try.func5, Try.ntmps5
              go_wp2_with (first
                | (have _u := HB12; clear _u; go_at_call 17; refine (HW.out _).mono ?_; rintro e w13 ⟨rfl, hb13⟩; have HB13 := hid (HB12.out.trans (hb13.mono HB12.out.size)); clear hb13)
                | (have _u := HB11; clear _u; go_at_call 10; with_reducible refine (G6.out _ _ S_c_11.out).mono ?_; rintro e w12 ⟨v12, rfl, ho12, hb12⟩; clear ho12; have HB12 := hid (HB11.out.trans (hb12.mono HB11.out.size)); clear hb12)
                | (have _u := HB10; clear _u; go_at_call 10; with_reducible refine (G5.out _ _ S_xc_10.out).mono ?_; rintro e w11 ⟨v11, rfl, ho11, hb11⟩; have S_c_11 := hid (S_c_10.out.below hb11); clear ho11; have HB11 := hid (HB10.out.trans (hb11.mono HB10.out.size)); clear hb11)
                | (have _u := HB9; clear _u; at_builtin; go_loud (refine wpList_app _ rfl _ _ 23 rfl .u8 w8.heap.size 5 1 Try.underlying23 Try.infoU8 _ x c rfl O_r2.out _ rfl S_c_9.out (by have := HN_c.out; unfold maxLen; omega) (by have := HN_c.out; omega) HQ9.out.size ?_); intro v10 w10 ho10 hg10 hb10 hn10; clear hg10 hn10; have S_c_10 := hid (S_c_8.out.below (HQ9.out.trans hb10)); have S_xc_10 := hid ho10.sl; have HB10 := hid (HB8.out.trans ((HQ9.out.trans hb10).mono HB8.out.size)); clear hb10 ho10)
                | (have _u := HB8; clear _u; go_at_call 8; with_reducible refine (keepTwin _ x _ S_x_8.out (by omega)).mono ?_; rintro e w9 ⟨v9, rfl, ho9, hb9⟩; have S_c_9 := hid (S_c_8.out.below hb9); have O_r2 := hid ho9; have HQ9 := hid hb9; clear ho9; have HB9 := hid (HB8.out.trans (hb9.mono HB8.out.size)); clear hb9)
                | (have _u := HB7; clear _u; go_at_call 15; refine (keepBytes _ _ (x ++ y) (x ++ y) _ S_z_7.out S_xy_7.out).mono ?_; rw [eqL_self]; rintro e w8 ⟨rfl, n8, hw8⟩; have hb8 : Below w7.heap.size w7 w8 := (by rw [hw8]; exact below_drewN n8); clear hw8; have S_c_8 := hid (S_c_7.out.below hb8); have S_x_8 := hid (S_x_7.out.below hb8); have HB8 := hid (HB7.out.trans (hb8.mono HB7.out.size)); clear hb8)
                | (have _u := HB6; clear _u; at_builtin; go_loud (refine wpList_guarded (by rfl) ?_; refine wpList_app _ rfl _ _ 23 rfl .u8 w5.heap.size 5 1 Try.underlying23 Try.infoU8 _ x y rfl O_r.out _ rfl S_y_6.out (by  unfold maxLen; omega) (by  omega) HQ6.out.size ?_); intro v7 w7 ho7 hg7 hb7 hn7; clear hg7 hn7; have S_c_7 := hid (S_c_5.out.below (HQ6.out.trans hb7)); have S_x_7 := hid (S_x_5.out.below (HQ6.out.trans hb7)); have S_z_7 := hid (S_z_5.out.below (HQ6.out.trans hb7)); have S_xy_7 := hid ho7.sl; have HB7 := hid (HB5.out.trans ((HQ6.out.trans hb7).mono HB5.out.size)); clear hb7 ho7)
                | (have _u := HB5; clear _u; go_at_call 8; with_reducible refine (keepTwin _ x _ S_x_5.out (by omega)).mono ?_; rintro e w6 ⟨v6, rfl, ho6, hb6⟩; have S_c_6 := hid (S_c_5.out.below hb6); have S_x_6 := hid (S_x_5.out.below hb6); have S_y_6 := hid (S_y_5.out.below hb6); have S_z_6 := hid (S_z_5.out.below hb6); have O_r := hid ho6; have HQ6 := hid hb6; clear ho6; have HB6 := hid (HB5.out.trans (hb6.mono HB5.out.size)); clear hb6)
                | (have _u := HB4; clear _u; go_at_call 9; with_reducible refine (G3.out _ _ S_ab_4.out).mono ?_; rintro e w5 ⟨v5, rfl, ho5, hb5⟩; have S_c_5 := hid (S_c_4.out.below hb5); have S_x_5 := hid (S_x_4.out.below hb5); have S_y_5 := hid (S_y_4.out.below hb5); have S_z_5 := hid ho5; clear ho5; have HB5 := hid (HB4.out.trans (hb5.mono HB4.out.size)); clear hb5)
                | (have _u := HB3; clear _u; at_builtin; go_loud (refine wpList_app _ rfl _ _ 22 rfl .i64 w2.heap.size 3 8 Try.underlying22 Try.infoI64 _ a b rfl O_t.out _ rfl S_b_3.out (by have := HN_a.out; have := HN_b.out; unfold maxLen; omega) (by have := HN_a.out; have := HN_b.out; omega) HQ3.out.size ?_); intro v4 w4 ho4 hg4 hb4 hn4; clear hg4 hn4; have S_c_4 := hid (S_c_2.out.below (HQ3.out.trans hb4)); have S_x_4 := hid (S_x_2.out.below (HQ3.out.trans hb4)); have S_y_4 := hid (S_y_2.out.below (HQ3.out.trans hb4)); have S_ab_4 := hid ho4.sl; have HB4 := hid (HB2.out.trans ((HQ3.out.trans hb4).mono HB2.out.size)); clear hb4 ho4)
                | (have _u := HB2; clear _u; go_at_call 18; with_reducible refine (keepTwinInts _ a _ S_a_2.out (by have := HN_a.out; omega)).mono ?_; rintro e w3 ⟨v3, rfl, ho3, hb3⟩; have S_b_3 := hid (S_b_2.out.below hb3); have S_c_3 := hid (S_c_2.out.below hb3); have S_x_3 := hid (S_x_2.out.below hb3); have S_y_3 := hid (S_y_2.out.below hb3); have O_t := hid ho3; have HQ3 := hid hb3; clear ho3; have HB3 := hid (HB2.out.trans (hb3.mono HB2.out.size)); clear hb3)
                | (have _u := HB1; clear _u; go_at_call 9; with_reducible refine (G2.out _ _ S_b_1.out).mono ?_; rintro e w2 ⟨v2, rfl, ho2, hb2⟩; have S_a_2 := hid (S_a_1.out.below hb2); have S_b_2 := hid (S_b_1.out.below hb2); have S_c_2 := hid (S_c_1.out.below hb2); have S_x_2 := hid (S_x_1.out.below hb2); have S_y_2 := hid ho2; clear ho2; have HB2 := hid (HB1.out.trans (hb2.mono HB1.out.size)); clear hb2)
                | (have _u := HB0; clear _u; go_at_call 9; with_reducible refine (G1.out _ _ HS_a.out).mono ?_; rintro e w1 ⟨v1, rfl, ho1, hb1⟩; obtain ⟨a1, c1, hv1⟩ := ho1.form; rw [← HLX.out] at hv1; subst hv1; have S_a_1 := hid (HS_a.out.below hb1); have S_b_1 := hid (HS_b.out.below hb1); have S_c_1 := hid (HS_c.out.below hb1); have S_x_1 := hid ho1; clear ho1; have HB1 := hid (HB0.out.trans (hb1.mono HB0.out.size)); clear hb1))
              go_ret
              exact ⟨rfl, HB13.out⟩
            | inr k =>
              have hk := get_bad _ (Nat.le_refl _) hu hg
              have hk2 : k < nc := by have := HN_c.out; omega
              rw [hg] at G6 hgc
              simp only at hgc
              rw [hgc] at G5
              simp only [outAt, outE, outL] at G5 G6
              have hkw : (((lx + k : Nat)) : Int) = (lx : Int) + (k : Int) := by omega
              rw [hkw] at G5
              clear hg hgc hu hk hkw
              go_enter Try.func5, Try.ntmps5
              go_wp2_with (first
                | (have _u := HB12; clear _u; go_at_call 17; refine (HW.out _).mono ?_; rintro e w13 ⟨rfl, hb13⟩; have HB13 := hid (HB12.out.trans (hb13.mono HB12.out.size)); clear hb13)
                | (have _u := HB11; clear _u; go_at_call 10; with_reducible refine (G6.out _ _ S_c_11.out).mono ?_; rintro e w12 ⟨v12, rfl, ho12, hb12⟩; clear ho12; have HB12 := hid (HB11.out.trans (hb12.mono HB11.out.size)); clear hb12)
                | (have _u := HB10; clear _u; go_at_call 10; with_reducible refine (G5.out _ _ S_xc_10.out).mono ?_; rintro e w11 ⟨v11, rfl, ho11, hb11⟩; have S_c_11 := hid (S_c_10.out.below hb11); clear ho11; have HB11 := hid (HB10.out.trans (hb11.mono HB10.out.size)); clear hb11)
                | (have _u := HB9; clear _u; at_builtin; go_loud (refine wpList_app _ rfl _ _ 23 rfl .u8 w8.heap.size 5 1 Try.underlying23 Try.infoU8 _ x c rfl O_r2.out _ rfl S_c_9.out (by have := HN_c.out; unfold maxLen; omega) (by have := HN_c.out; omega) HQ9.out.size ?_); intro v10 w10 ho10 hg10 hb10 hn10; clear hg10 hn10; have S_c_10 := hid (S_c_8.out.below (HQ9.out.trans hb10)); have S_xc_10 := hid ho10.sl; have HB10 := hid (HB8.out.trans ((HQ9.out.trans hb10).mono HB8.out.size)); clear hb10 ho10)
                | (have _u := HB8; clear _u; go_at_call 8; with_reducible refine (keepTwin _ x _ S_x_8.out (by omega)).mono ?_; rintro e w9 ⟨v9, rfl, ho9, hb9⟩; have S_c_9 := hid (S_c_8.out.below hb9); have O_r2 := hid ho9; have HQ9 := hid hb9; clear ho9; have HB9 := hid (HB8.out.trans (hb9.mono HB8.out.size)); clear hb9)
                | (have _u := HB7; clear _u; go_at_call 15; refine (keepBytes _ _ (x ++ y) (x ++ y) _ S_z_7.out S_xy_7.out).mono ?_; rw [eqL_self]; rintro e w8 ⟨rfl, n8, hw8⟩; have hb8 : Below w7.heap.size w7 w8 := (by rw [hw8]; exact below_drewN n8); clear hw8; have S_c_8 := hid (S_c_7.out.below hb8); have S_x_8 := hid (S_x_7.out.below hb8); have HB8 := hid (HB7.out.trans (hb8.mono HB7.out.size)); clear hb8)
                | (have _u := HB6; clear _u; at_builtin; go_loud (refine wpList_guarded (by rfl) ?_; refine wpList_app _ rfl _ _ 23 rfl .u8 w5.heap.size 5 1 Try.underlying23 Try.infoU8 _ x y rfl O_r.out _ rfl S_y_6.out (by  unfold maxLen; omega) (by  omega) HQ6.out.size ?_); intro v7 w7 ho7 hg7 hb7 hn7; clear hg7 hn7; have S_c_7 := hid (S_c_5.out.below (HQ6.out.trans hb7)); have S_x_7 := hid (S_x_5.out.below (HQ6.out.trans hb7)); have S_z_7 := hid (S_z_5.out.below (HQ6.out.trans hb7)); have S_xy_7 := hid ho7.sl; have HB7 := hid (HB5.out.trans ((HQ6.out.trans hb7).mono HB5.out.size)); clear hb7 ho7)
                | (have _u := HB5; clear _u; go_at_call 8; with_reducible refine (keepTwin _ x _ S_x_5.out (by omega)).mono ?_; rintro e w6 ⟨v6, rfl, ho6, hb6⟩; have S_c_6 := hid (S_c_5.out.below hb6); have S_x_6 := hid (S_x_5.out.below hb6); have S_y_6 := hid (S_y_5.out.below hb6); have S_z_6 := hid (S_z_5.out.below hb6); have O_r := hid ho6; have HQ6 := hid hb6; clear ho6; have HB6 := hid (HB5.out.trans (hb6.mono HB5.out.size)); clear hb6)
                | (have _u := HB4; clear _u; go_at_call 9; with_reducible refine (G3.out _ _ S_ab_4.out).mono ?_; rintro e w5 ⟨v5, rfl, ho5, hb5⟩; have S_c_5 := hid (S_c_4.out.below hb5); have S_x_5 := hid (S_x_4.out.below hb5); have S_y_5 := hid (S_y_4.out.below hb5); have S_z_5 := hid ho5; clear ho5; have HB5 := hid (HB4.out.trans (hb5.mono HB4.out.size)); clear hb5)
                | (have _u := HB3; clear _u; at_builtin; go_loud (refine wpList_app _ rfl _ _ 22 rfl .i64 w2.heap.size 3 8 Try.underlying22 Try.infoI64 _ a b rfl O_t.out _ rfl S_b_3.out (by have := HN_a.out; have := HN_b.out; unfold maxLen; omega) (by have := HN_a.out; have := HN_b.out; omega) HQ3.out.size ?_); intro v4 w4 ho4 hg4 hb4 hn4; clear hg4 hn4; have S_c_4 := hid (S_c_2.out.below (HQ3.out.trans hb4)); have S_x_4 := hid (S_x_2.out.below (HQ3.out.trans hb4)); have S_y_4 := hid (S_y_2.out.below (HQ3.out.trans hb4)); have S_ab_4 := hid ho4.sl; have HB4 := hid (HB2.out.trans ((HQ3.out.trans hb4).mono HB2.out.size)); clear hb4 ho4)
                | (have _u := HB2; clear _u; go_at_call 18; with_reducible refine (keepTwinInts _ a _ S_a_2.out (by have := HN_a.out; omega)).mono ?_; rintro e w3 ⟨v3, rfl, ho3, hb3⟩; have S_b_3 := hid (S_b_2.out.below hb3); have S_c_3 := hid (S_c_2.out.below hb3); have S_x_3 := hid (S_x_2.out.below hb3); have S_y_3 := hid (S_y_2.out.below hb3); have O_t := hid ho3; have HQ3 := hid hb3; clear ho3; have HB3 := hid (HB2.out.trans (hb3.mono HB2.out.size)); clear hb3)
                | (have _u := HB1; clear _u; go_at_call 9; with_reducible refine (G2.out _ _ S_b_1.out).mono ?_; rintro e w2 ⟨v2, rfl, ho2, hb2⟩; have S_a_2 := hid (S_a_1.out.below hb2); have S_b_2 := hid (S_b_1.out.below hb2); have S_c_2 := hid (S_c_1.out.below hb2); have S_x_2 := hid (S_x_1.out.below hb2); have S_y_2 := hid ho2; clear ho2; have HB2 := hid (HB1.out.trans (hb2.mono HB1.out.size)); clear hb2)
                | (have _u := HB0; clear _u; go_at_call 9; with_reducible refine (G1.out _ _ HS_a.out).mono ?_; rintro e w1 ⟨v1, rfl, ho1, hb1⟩; obtain ⟨a1, c1, hv1⟩ := ho1.form; rw [← HLX.out] at hv1; subst hv1; have S_a_1 := hid (HS_a.out.below hb1); have S_b_1 := hid (HS_b.out.below hb1); have S_c_1 := hid (HS_c.out.below hb1); have S_x_1 := hid ho1; clear ho1; have HB1 := hid (HB0.out.trans (hb1.mono HB0.out.size)); clear hb1))
              go_ret
              exact ⟨rfl, HB13.out⟩
      · have hf_nc : 400 < nc := by omega
        clear hl_nc HP HG
        go_enter Try.func5, Try.ntmps5
        go_wp2
        go_ret
        exact ⟨rfl, Below.refl _ _⟩
    · have hf_nb : 400 < nb := by omega
      clear hl_nb HP HG
      go_enter Try.func5, Try.ntmps5
      go_wp2
      go_ret
      exact ⟨rfl, Below.refl _ _⟩
  · have hf_na : 400 < na := by omega
    clear hl_na HP HG
    go_enter Try.func5, Try.ntmps5
    go_wp2
    go_ret
    exact ⟨rfl, Below.refl _ _⟩
end Go.Proofs.Ytajncbohgialaaa
