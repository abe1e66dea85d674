/- Several texts in one: LawTwice11, LawQuick11, Turn11. -/
import Derived.Test.YtimbchkoomjhkaaPk18
import Derived.Test.YtimbchkoomjhkaaPk12
/-! LawTwice11 -/
namespace Go.Proofs.Ytimbchkoomjhkaa
open Go.RowKit

set_option maxHeartbeats 4000000 in
theorem walkTwice11 (HA : NApartOk) (HF : NFormOk) (HQ : NQuickOk) (HSM : NSameOk) (v : Value) (s : List Int) (k : Bool) (w : World) (h : Sl .i64 w v s) (hi : s.all inI = true) :
    Calls Try.prog 4 #[v, .bool k] w fun e w' => e = .returned (.bool true) ∧ Below w.heap.size w w' := by
  have HS := hid h
  have ml := h.len
  obtain ⟨av, cv, hv⟩ := h.form
  obtain ⟨n, hn⟩ : ∃ n, n = s.length := ⟨_, rfl⟩
  rw [← hn] at hv ml
  subst hv
  have HN := hid hn
  have HW := hid (fun w => lawWakes11 HF HQ HSM w)
  have HB0 := hid (Below.refl w.heap.size w)
  clear hn h
  by_cases hl : n ≤ 200
  · have fit : FitsK k s := fits_small hi (by have := HN.out; omega)
    have G1 := hid (fun v w h => HF k v s w h fit)
    have G2 := hid (fun v w h => HA k v s w h fit)
    have G3 := hid (fun v w h => HF k v (formS k s) w h (fits_form fit))
    rw [form_form hi] at G3
    have G5 := hid (fun v w h => HF k v (apartS k s) w h (fits_apart fit))
    rw [form_apart hi] at G5
    have G7 := hid (fun v w h => HA k v (formS k s) w h (fits_form fit))
    rw [apart_form hi] at G7
    have G9 := hid (fun v w h => HA k v (apartS k s) w h (fits_apart fit))
    rw [apart_apart hi] at G9
    generalize formS k s = F at G1 G3 G5 G7
    generalize apartS k s = A at G2 G5 G7 G9
    clear HA HF HQ HSM hi fit
    go_enter Try.func4, Try.ntmps4
    go_wp2_with (first
      | (have _u := HB10; clear _u; go_at_call 20; refine (HW.out _).mono ?_; rintro e w11 ⟨rfl, hb11⟩; have HB11 := hid (HB10.out.trans (hb11.mono HB10.out.size)); clear hb11)
      | (have _u := HB9; clear _u; go_at_call 13; refine (keepInts _ _ A A _ S_aa_9.out S_a_9.out).mono ?_; rw [eqL_self]; rintro e w10 ⟨rfl, n10, hw10⟩; have hb10 : Below w9.heap.size w9 w10 := (by rw [hw10]; exact below_drewN n10); clear hw10; have HB10 := hid (HB9.out.trans (hb10.mono HB9.out.size)); clear hb10)
      | (have _u := HB8; clear _u; go_at_call 14; with_reducible refine (G9.out _ _ S_a_8.out).mono ?_; rintro e w9 ⟨v9, rfl, ho9, hb9⟩; have S_a_9 := hid (S_a_8.out.below hb9); have S_aa_9 := hid ho9.sl; clear ho9; have HB9 := hid (HB8.out.trans (hb9.mono HB8.out.size)); clear hb9)
      | (have _u := HB7; clear _u; go_at_call 13; refine (keepInts _ _ A A _ S_af_7.out S_a_7.out).mono ?_; rw [eqL_self]; rintro e w8 ⟨rfl, n8, hw8⟩; have hb8 : Below w7.heap.size w7 w8 := (by rw [hw8]; exact below_drewN n8); clear hw8; have S_a_8 := hid (S_a_7.out.below hb8); have HB8 := hid (HB7.out.trans (hb8.mono HB7.out.size)); clear hb8)
      | (have _u := HB6; clear _u; go_at_call 14; with_reducible refine (G7.out _ _ S_f_6.out).mono ?_; rintro e w7 ⟨v7, rfl, ho7, hb7⟩; have S_a_7 := hid (S_a_6.out.below hb7); have S_af_7 := hid ho7.sl; clear ho7; have HB7 := hid (HB6.out.trans (hb7.mono HB6.out.size)); clear hb7)
      | (have _u := HB5; clear _u; go_at_call 13; refine (keepInts _ _ F F _ S_fa_5.out S_f_5.out).mono ?_; rw [eqL_self]; rintro e w6 ⟨rfl, n6, hw6⟩; have hb6 : Below w5.heap.size w5 w6 := (by rw [hw6]; exact below_drewN n6); clear hw6; have S_f_6 := hid (S_f_5.out.below hb6); have S_a_6 := hid (S_a_5.out.below hb6); have HB6 := hid (HB5.out.trans (hb6.mono HB5.out.size)); clear hb6)
      | (have _u := HB4; clear _u; go_at_call 16; with_reducible refine (G5.out _ _ S_a_4.out).mono ?_; rintro e w5 ⟨v5, rfl, ho5, hb5⟩; have S_f_5 := hid (S_f_4.out.below hb5); have S_a_5 := hid (S_a_4.out.below hb5); have S_fa_5 := hid ho5.sl; clear ho5; have HB5 := hid (HB4.out.trans (hb5.mono HB4.out.size)); clear hb5)
      | (have _u := HB3; clear _u; go_at_call 13; refine (keepInts _ _ F F _ S_ff_3.out S_f_3.out).mono ?_; rw [eqL_self]; rintro e w4 ⟨rfl, n4, hw4⟩; have hb4 : Below w3.heap.size w3 w4 := (by rw [hw4]; exact below_drewN n4); clear hw4; have S_f_4 := hid (S_f_3.out.below hb4); have S_a_4 := hid (S_a_3.out.below hb4); have HB4 := hid (HB3.out.trans (hb4.mono HB3.out.size)); clear hb4)
      | (have _u := HB2; clear _u; go_at_call 16; with_reducible refine (G3.out _ _ S_f_2.out).mono ?_; rintro e w3 ⟨v3, rfl, ho3, hb3⟩; have S_f_3 := hid (S_f_2.out.below hb3); have S_a_3 := hid (S_a_2.out.below hb3); have S_ff_3 := hid ho3.sl; clear ho3; have HB3 := hid (HB2.out.trans (hb3.mono HB2.out.size)); clear hb3)
      | (have _u := HB1; clear _u; go_at_call 14; with_reducible refine (G2.out _ _ S_s_1.out).mono ?_; rintro e w2 ⟨v2, rfl, ho2, hb2⟩; have S_f_2 := hid (S_f_1.out.below hb2); have S_a_2 := hid ho2.sl; clear ho2; have HB2 := hid (HB1.out.trans (hb2.mono HB1.out.size)); clear hb2)
      | (have _u := HB0; clear _u; go_at_call 16; with_reducible refine (G1.out _ _ HS.out).mono ?_; rintro e w1 ⟨v1, rfl, ho1, hb1⟩; have S_s_1 := hid (HS.out.below hb1); have S_f_1 := hid ho1.sl; clear ho1; have HB1 := hid (HB0.out.trans (hb1.mono HB0.out.size)); clear hb1))
    go_ret
    exact ⟨rfl, HB11.out⟩
  · have hl2 : 200 < n := by omega
    clear HF HA HQ HSM hl
    go_enter Try.func4, Try.ntmps4
    go_wp2
    go_ret
    exact ⟨rfl, Below.refl _ _⟩
end Go.Proofs.Ytimbchkoomjhkaa

/-! LawQuick11 -/
namespace Go.Proofs.Ytimbchkoomjhkaa
open Go.RowKit

set_option maxHeartbeats 4000000 in
theorem walkQuick11 (HF : NFormOk) (HQ : NQuickOk) (HSM : NSameOk) (va vb : Value) (a b : List Int) (k : Bool) (w : World) (h1 : Sl .i64 w va a) (h2 : Sl .i64 w vb b) (ha : a.all inI = true) (hb : b.all inI = true) :
    Calls Try.prog 5 #[va, vb, .bool k] w fun e w' => e = .returned (.bool true) ∧ Below w.heap.size w w' := by
  have HS1 := hid h1
  have HS2 := hid h2
  have m1 := h1.len
  have m2 := h2.len
  obtain ⟨a1, c1, hv1⟩ := h1.form
  obtain ⟨a2, c2, hv2⟩ := h2.form
  obtain ⟨n1, hn1⟩ : ∃ n, n = a.length := ⟨_, rfl⟩
  obtain ⟨n2, hn2⟩ : ∃ n, n = b.length := ⟨_, rfl⟩
  rw [← hn1] at hv1 m1
  rw [← hn2] at hv2 m2
  subst hv1 hv2
  have HN1 := hid hn1
  have HN2 := hid hn2
  have HW := hid (fun w => lawWakes11 HF HQ HSM w)
  have HB0 := hid (Below.refl w.heap.size w)
  clear hn1 hn2 h1 h2
  by_cases hl1 : n1 ≤ 200
  · by_cases hl2 : n2 ≤ 200
    · have hab : (a ++ b).all inI = true := by rw [List.all_append, ha, hb]; rfl
      have G1 := hid (fun v w h => HQ k v a w h ha (by have := HN1.out; omega))
      have G2 := hid (fun v w h => HQ k v b w h hb (by have := HN2.out; omega))
      have G3 := hid (fun v w h => HF k v a w h (fits_small ha (by have := HN1.out; omega)))
      have hqf : quickS k a = true → formS k a = a := quick_form
      have G4 := hid (fun v w h => keepTwinInts v a w h (by have := HN1.out; omega))
      have G6 := hid (fun v w h => HQ k v (a ++ b) w h hab (by rw [List.length_append]; have := HN1.out; have := HN2.out; omega))
      rw [quick_app] at G6
      generalize quickS k a = qa at G1 G6 hqf
      generalize quickS k b = qb at G2 G6
      generalize formS k a = FA at G3 hqf
      clear HF HQ HSM ha hb hab
      cases qa with
      | true =>
        rw [hqf rfl] at G3
        clear hqf
        cases qb with
        | true =>
          go_enter Try.func5, Try.ntmps5
          go_wp2_with (first
            | (have _u := HB7; clear _u; go_at_call 20; refine (HW.out _).mono ?_; rintro e w8 ⟨rfl, hb8⟩; have HB8 := hid (HB7.out.trans (hb8.mono HB7.out.size)); clear hb8)
            | (have _u := HB6; clear _u; go_at_call 17; with_reducible refine (G6.out _ _ S_ab_6.out).mono ?_; rintro e w7 ⟨rfl, hb7⟩; have HB7 := hid (HB6.out.trans (hb7.mono HB6.out.size)); clear hb7)
            | (have _u := HB5; clear _u; at_builtin; go_loud (refine wpList_app _ rfl _ _ 22 rfl .i64 w4.heap.size 3 8 Try.underlying22 Try.infoI64 _ a b rfl O_t.out _ rfl S_b_5.out (by have := HN1.out; have := HN2.out; unfold maxLen; omega) (by have := HN1.out; have := HN2.out; omega) HQ5.out.size ?_); intro v6 w6 ho6 hg6 hb6 hn6; clear hg6 hn6; have S_ab_6 := hid ho6.sl; have HB6 := hid (HB4.out.trans ((HQ5.out.trans hb6).mono HB4.out.size)); clear hb6 ho6)
            | (have _u := HB4; clear _u; go_at_call 11; with_reducible refine (G4.out _ _ S_a_4.out).mono ?_; rintro e w5 ⟨v5, rfl, ho5, hb5⟩; have S_b_5 := hid (S_b_4.out.below hb5); have O_t := hid ho5; have HQ5 := hid hb5; clear ho5; have HB5 := hid (HB4.out.trans (hb5.mono HB4.out.size)); clear hb5)
            | (have _u := HB3; clear _u; go_at_call 13; refine (keepInts _ _ a a _ S_f_3.out S_a_3.out).mono ?_; rw [eqL_self]; rintro e w4 ⟨rfl, n4, hw4⟩; have hb4 : Below w3.heap.size w3 w4 := (by rw [hw4]; exact below_drewN n4); clear hw4; have S_a_4 := hid (S_a_3.out.below hb4); have S_b_4 := hid (S_b_3.out.below hb4); have HB4 := hid (HB3.out.trans (hb4.mono HB3.out.size)); clear hb4)
            | (have _u := HB2; clear _u; go_at_call 16; with_reducible refine (G3.out _ _ S_a_2.out).mono ?_; rintro e w3 ⟨v3, rfl, ho3, hb3⟩; have S_a_3 := hid (S_a_2.out.below hb3); have S_b_3 := hid (S_b_2.out.below hb3); have S_f_3 := hid ho3.sl; clear ho3; have HB3 := hid (HB2.out.trans (hb3.mono HB2.out.size)); clear hb3)
            | (have _u := HB1; clear _u; go_at_call 17; with_reducible refine (G2.out _ _ S_b_1.out).mono ?_; rintro e w2 ⟨rfl, hb2⟩; have S_a_2 := hid (S_a_1.out.below hb2); have S_b_2 := hid (S_b_1.out.below hb2); have HB2 := hid (HB1.out.trans (hb2.mono HB1.out.size)); clear hb2)
            | (have _u := HB0; clear _u; go_at_call 17; with_reducible refine (G1.out _ _ HS1.out).mono ?_; rintro e w1 ⟨rfl, hb1⟩; have S_a_1 := hid (HS1.out.below hb1); have S_b_1 := hid (HS2.out.below hb1); have HB1 := hid (HB0.out.trans (hb1.mono HB0.out.size)); clear hb1))
          go_ret
          exact ⟨rfl, HB8.out⟩
        | false =>
          go_enter Try.func5, Try.ntmps5
          go_wp2_with (first
            | (have _u := HB7; clear _u; go_at_call 20; refine (HW.out _).mono ?_; rintro e w8 ⟨rfl, hb8⟩; have HB8 := hid (HB7.out.trans (hb8.mono HB7.out.size)); clear hb8)
            | (have _u := HB6; clear _u; go_at_call 17; with_reducible refine (G6.out _ _ S_ab_6.out).mono ?_; rintro e w7 ⟨rfl, hb7⟩; have HB7 := hid (HB6.out.trans (hb7.mono HB6.out.size)); clear hb7)
            | (have _u := HB5; clear _u; at_builtin; go_loud (refine wpList_app _ rfl _ _ 22 rfl .i64 w4.heap.size 3 8 Try.underlying22 Try.infoI64 _ a b rfl O_t.out _ rfl S_b_5.out (by have := HN1.out; have := HN2.out; unfold maxLen; omega) (by have := HN1.out; have := HN2.out; omega) HQ5.out.size ?_); intro v6 w6 ho6 hg6 hb6 hn6; clear hg6 hn6; have S_ab_6 := hid ho6.sl; have HB6 := hid (HB4.out.trans ((HQ5.out.trans hb6).mono HB4.out.size)); clear hb6 ho6)
            | (have _u := HB4; clear _u; go_at_call 11; with_reducible refine (G4.out _ _ S_a_4.out).mono ?_; rintro e w5 ⟨v5, rfl, ho5, hb5⟩; have S_b_5 := hid (S_b_4.out.below hb5); have O_t := hid ho5; have HQ5 := hid hb5; clear ho5; have HB5 := hid (HB4.out.trans (hb5.mono HB4.out.size)); clear hb5)
            | (have _u := HB3; clear _u; go_at_call 13; refine (keepInts _ _ a a _ S_f_3.out S_a_3.out).mono ?_; rw [eqL_self]; rintro e w4 ⟨rfl, n4, hw4⟩; have hb4 : Below w3.heap.size w3 w4 := (by rw [hw4]; exact below_drewN n4); clear hw4; have S_a_4 := hid (S_a_3.out.below hb4); have S_b_4 := hid (S_b_3.out.below hb4); have HB4 := hid (HB3.out.trans (hb4.mono HB3.out.size)); clear hb4)
            | (have _u := HB2; clear _u; go_at_call 16; with_reducible refine (G3.out _ _ S_a_2.out).mono ?_; rintro e w3 ⟨v3, rfl, ho3, hb3⟩; have S_a_3 := hid (S_a_2.out.below hb3); have S_b_3 := hid (S_b_2.out.below hb3); have S_f_3 := hid ho3.sl; clear ho3; have HB3 := hid (HB2.out.trans (hb3.mono HB2.out.size)); clear hb3)
            | (have _u := HB1; clear _u; go_at_call 17; with_reducible refine (G2.out _ _ S_b_1.out).mono ?_; rintro e w2 ⟨rfl, hb2⟩; have S_a_2 := hid (S_a_1.out.below hb2); have S_b_2 := hid (S_b_1.out.below hb2); have HB2 := hid (HB1.out.trans (hb2.mono HB1.out.size)); clear hb2)
            | (have _u := HB0; clear _u; go_at_call 17; with_reducible refine (G1.out _ _ HS1.out).mono ?_; rintro e w1 ⟨rfl, hb1⟩; have S_a_1 := hid (HS1.out.below hb1); have S_b_1 := hid (HS2.out.below hb1); have HB1 := hid (HB0.out.trans (hb1.mono HB0.out.size)); clear hb1))
          go_ret
          exact ⟨rfl, HB8.out⟩
      | false =>
        clear G3 hqf
        cases qb with
        | true =>
          go_enter Try.func5, Try.ntmps5
          go_wp2_with (first
            | (have _u := HB5; clear _u; go_at_call 20; refine (HW.out _).mono ?_; rintro e w6 ⟨rfl, hb6⟩; have HB6 := hid (HB5.out.trans (hb6.mono HB5.out.size)); clear hb6)
            | (have _u := HB4; clear _u; go_at_call 17; with_reducible refine (G6.out _ _ S_ab_4.out).mono ?_; rintro e w5 ⟨rfl, hb5⟩; have HB5 := hid (HB4.out.trans (hb5.mono HB4.out.size)); clear hb5)
            | (have _u := HB3; clear _u; at_builtin; go_loud (refine wpList_app _ rfl _ _ 22 rfl .i64 w2.heap.size 3 8 Try.underlying22 Try.infoI64 _ a b rfl O_t.out _ rfl S_b_3.out (by have := HN1.out; have := HN2.out; unfold maxLen; omega) (by have := HN1.out; have := HN2.out; omega) HQ3.out.size ?_); intro v4 w4 ho4 hg4 hb4 hn4; clear hg4 hn4; have S_ab_4 := hid ho4.sl; have HB4 := hid (HB2.out.trans ((HQ3.out.trans hb4).mono HB2.out.size)); clear hb4 ho4)
            | (have _u := HB2; clear _u; go_at_call 11; with_reducible refine (G4.out _ _ S_a_2.out).mono ?_; rintro e w3 ⟨v3, rfl, ho3, hb3⟩; have S_b_3 := hid (S_b_2.out.below hb3); have O_t := hid ho3; have HQ3 := hid hb3; clear ho3; have HB3 := hid (HB2.out.trans (hb3.mono HB2.out.size)); clear hb3)
            | (have _u := HB1; clear _u; go_at_call 17; with_reducible refine (G2.out _ _ S_b_1.out).mono ?_; rintro e w2 ⟨rfl, hb2⟩; have S_a_2 := hid (S_a_1.out.below hb2); have S_b_2 := hid (S_b_1.out.below hb2); have HB2 := hid (HB1.out.trans (hb2.mono HB1.out.size)); clear hb2)
            | (have _u := HB0; clear _u; go_at_call 17; with_reducible refine (G1.out _ _ HS1.out).mono ?_; rintro e w1 ⟨rfl, hb1⟩; have S_a_1 := hid (HS1.out.below hb1); have S_b_1 := hid (HS2.out.below hb1); have HB1 := hid (HB0.out.trans (hb1.mono HB0.out.size)); clear hb1))
          go_ret
          exact ⟨rfl, HB6.out⟩
        | false =>
          go_enter Try.func5, Try.ntmps5
          go_wp2_with (first
            | (have _u := HB5; clear _u; go_at_call 20; refine (HW.out _).mono ?_; rintro e w6 ⟨rfl, hb6⟩; have HB6 := hid (HB5.out.trans (hb6.mono HB5.out.size)); clear hb6)
            | (have _u := HB4; clear _u; go_at_call 17; with_reducible refine (G6.out _ _ S_ab_4.out).mono ?_; rintro e w5 ⟨rfl, hb5⟩; have HB5 := hid (HB4.out.trans (hb5.mono HB4.out.size)); clear hb5)
            | (have _u := HB3; clear _u; at_builtin; go_loud (refine wpList_app _ rfl _ _ 22 rfl .i64 w2.heap.size 3 8 Try.underlying22 Try.infoI64 _ a b rfl O_t.out _ rfl S_b_3.out (by have := HN1.out; have := HN2.out; unfold maxLen; omega) (by have := HN1.out; have := HN2.out; omega) HQ3.out.size ?_); intro v4 w4 ho4 hg4 hb4 hn4; clear hg4 hn4; have S_ab_4 := hid ho4.sl; have HB4 := hid (HB2.out.trans ((HQ3.out.trans hb4).mono HB2.out.size)); clear hb4 ho4)
            | (have _u := HB2; clear _u; go_at_call 11; with_reducible refine (G4.out _ _ S_a_2.out).mono ?_; rintro e w3 ⟨v3, rfl, ho3, hb3⟩; have S_b_3 := hid (S_b_2.out.below hb3); have O_t := hid ho3; have HQ3 := hid hb3; clear ho3; have HB3 := hid (HB2.out.trans (hb3.mono HB2.out.size)); clear hb3)
            | (have _u := HB1; clear _u; go_at_call 17; with_reducible refine (G2.out _ _ S_b_1.out).mono ?_; rintro e w2 ⟨rfl, hb2⟩; have S_a_2 := hid (S_a_1.out.below hb2); have S_b_2 := hid (S_b_1.out.below hb2); have HB2 := hid (HB1.out.trans (hb2.mono HB1.out.size)); clear hb2)
            | (have _u := HB0; clear _u; go_at_call 17; with_reducible refine (G1.out _ _ HS1.out).mono ?_; rintro e w1 ⟨rfl, hb1⟩; have S_a_1 := hid (HS1.out.below hb1); have S_b_1 := hid (HS2.out.below hb1); have HB1 := hid (HB0.out.trans (hb1.mono HB0.out.size)); clear hb1))
          go_ret
          exact ⟨rfl, HB6.out⟩
    · have hl : 200 < n2 := by omega
      clear HF HQ HSM hl2
      go_enter Try.func5, Try.ntmps5
      go_wp2
      go_ret
      exact ⟨rfl, Below.refl _ _⟩
  · have hl : 200 < n1 := by omega
    clear HF HQ HSM hl1
    go_enter Try.func5, Try.ntmps5
    go_wp2
    go_ret
    exact ⟨rfl, Below.refl _ _⟩
end Go.Proofs.Ytimbchkoomjhkaa

/-! Turn11 -/
namespace Go.Proofs.Ytimbchkoomjhkaa
theorem list_pair (a : List Int) {i : Nat} (h : i + 1 < a.length) : a = a.take i ++ a.getD i 0 :: a.getD (i + 1) 0 :: a.drop (i + 2) := by
  have e1 : a.getD i 0 = a[i] := by rw [List.getD_eq_getElem?_getD, List.getElem?_eq_getElem (by omega)]; rfl
  have e2 : a.getD (i + 1) 0 = a[i + 1] := by rw [List.getD_eq_getElem?_getD, List.getElem?_eq_getElem h]; rfl
  rw [e1, e2, show i + 2 = i + 1 + 1 by omega, ← List.drop_eq_getElem_cons h, ← List.drop_eq_getElem_cons (show i < a.length by omega), List.take_append_drop]
theorem list_turn (a : List Int) {i : Nat} (h : i + 1 < a.length) : (a.set i (a.getD (i + 1) 0)).set (i + 1) (a.getD i 0) = a.take i ++ a.getD (i + 1) 0 :: a.getD i 0 :: a.drop (i + 2) := by
  have e := list_pair a h
  generalize a.getD i 0 = x at e ⊢
  generalize a.getD (i + 1) 0 = y at e ⊢
  have hl : (a.take i).length = i := by rw [List.length_take]; omega
  generalize a.take i = P at e hl ⊢
  generalize a.drop (i + 2) = Q at e ⊢
  subst e
  subst hl
  simp
theorem turned_form (a : List Int) {i : Nat} (h : i + 1 < a.length) (hx : classS (a.getD i 0) ≠ 0) (hy : classS (a.getD (i + 1) 0) ≠ 0) (hxy : classS (a.getD i 0) ≠ classS (a.getD (i + 1) 0)) :
    formS false ((a.set i (a.getD (i + 1) 0)).set (i + 1) (a.getD i 0)) = formS false a := by
  rw [list_turn a h]
  conv => rhs; rw [list_pair a h]
  exact (turn_form hx hy hxy _ _).symm
end Go.Proofs.Ytimbchkoomjhkaa
