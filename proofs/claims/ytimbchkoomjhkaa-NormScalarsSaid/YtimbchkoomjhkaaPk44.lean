/- Several texts in one: LawScalars11. -/
import Derived.Test.YtimbchkoomjhkaaPk18
import Derived.Test.YtimbchkoomjhkaaPk3
import Derived.Test.YtimbchkoomjhkaaPk43
import Derived.Test.YtimbchkoomjhkaaPk12
import Derived.Deep.CutRange
import Derived.Deep.RegionLaw
/-! LawScalars11 -/
namespace Go.Proofs.Ytimbchkoomjhkaa
open Go.RowKit

theorem eqL_beq11 (x y : List Int) : eqL x y = (x == y) := by
  rw [Bool.eq_iff_iff, beq_iff_eq]
  exact eqL_iff
set_option maxHeartbeats 4000000 in
theorem walkScalars11 (HA : NApartOk) (HF : NFormOk) (HQ : NQuickOk) (HSM : NSameOk) (c : Int) (w : World) (hc : inI c = true) :
    Calls Try.prog 8 #[.int .i64 c] w fun e w' => e = .returned (.bool true) ∧ Below w.heap.size w w' := by
  have HW := hid (fun w => lawWakes11 HF HQ HSM w)
  have HB0 := hid (Below.refl w.heap.size w)
  have hi : [c].all inI = true := by rw [List.all_cons, hc]; rfl
  have fit : FitsK false [c] := fits_small hi (by simp)
  have G1 := hid (fun v w h => HF false v [c] w h fit)
  have G2 := hid (fun v w h => HA false v [c] w h fit)
  have G3 := hid (fun v w h => HA false v (formS false [c]) w h (fits_form fit))
  rw [apart_form hi] at G3
  have G5 := hid (fun w => ucdCanon c w)
  generalize apartS false [c] = A at G2 G3
  have H0 : canonS c = [] → formS false [c] = [c] := scalar_none
  have H1 : ∀ x, canonS c = [x] → eqL (formS false [c]) [c] = false := fun x h => by rw [eqL_beq11, beq_eq_false_iff_ne]; exact scalar_one h
  have H2 : ∀ x y, canonS c = [x, y] → eqL (formS false [c]) [c] = ((pairS x y).2 && (pairS x y).1 == c) := fun x y h => by rw [eqL_beq11]; exact scalar_two h
  have HL := canon_len c
  generalize formS false [c] = FC at G1 G3 H0 H1 H2
  generalize canonS c = L at G5 H0 H1 H2 HL
  clear HA HF HQ HSM hi fit hc
  rcases HL with hl | ⟨x, hl⟩ | ⟨x, y, hl⟩
  · have e0 : eqL FC [c] = true := by rw [H0 hl]; exact eqL_self _
    rw [hl] at G5
    clear H0 H1 H2 hl
    go_enter Try.func8, Try.ntmps8
    go_wp2_with (first
      | (have _u := HB6; clear _u; go_at_call 20; refine (HW.out _).mono ?_; rintro e w7 ⟨rfl, hb7⟩; have HB7 := hid (HB6.out.trans (hb7.mono HB6.out.size)); clear hb7)
      | (have _u := HB5; clear _u; go_at_call 13; refine (keepInts _ _ FC [c] _ (S_f_5.out.below (by (repeat (first | exact Below.refl _ _ | exact below_drewN _ | refine Below.drew ?_ | refine Below.alloc ?_ (by simp) _ | refine Below.setCell ?_ (by simp) _ | refine below_drewN' ?_ _)))) (lit_sl (by first | simp | rfl) rfl rfl (by simp))).mono ?_; rw [e0]; rintro e w6 ⟨rfl, n6, hw6⟩; have hb6 : Below w5.heap.size w5 w6 := (by rw [hw6]; exact below_drewN' ((Below.refl _ _).alloc (Nat.le_refl _) _) n6); clear hw6; have HB6 := hid (HB5.out.trans (hb6.mono HB5.out.size)); clear hb6)
      | (have _u := HB4; clear _u; go_at_call 22; refine (G5.out _).mono ?_; rintro e w5 ⟨v5, rfl, ho5, hb5⟩; obtain ⟨al, cl, rfl⟩ := ho5.form; simp only [List.length_nil]; have S_f_5 := hid (S_f_4.out.below hb5); clear ho5; have HB5 := hid (HB4.out.trans (hb5.mono HB4.out.size)); clear hb5)
      | (have _u := HB3; clear _u; go_at_call 13; refine (keepInts _ _ A A _ S_af_3.out S_a_3.out).mono ?_; rw [eqL_self]; rintro e w4 ⟨rfl, n4, hw4⟩; have hb4 : Below w3.heap.size w3 w4 := (by rw [hw4]; exact below_drewN n4); clear hw4; have S_f_4 := hid (S_f_3.out.below hb4); have HB4 := hid (HB3.out.trans (hb4.mono HB3.out.size)); clear hb4)
      | (have _u := HB2; clear _u; go_at_call 14; with_reducible refine (G3.out _ _ S_f_2.out).mono ?_; rintro e w3 ⟨v3, rfl, ho3, hb3⟩; have S_f_3 := hid (S_f_2.out.below hb3); have S_a_3 := hid (S_a_2.out.below hb3); have S_af_3 := hid ho3.sl; clear ho3; have HB3 := hid (HB2.out.trans (hb3.mono HB2.out.size)); clear hb3)
      | (have _u := HB1; clear _u; go_at_call 14; refine (G2.out _ _ (lit_sl (by first | simp | rfl) rfl rfl (by simp))).mono ?_; rintro e w2 ⟨v2, rfl, ho2, hb2⟩; replace hb2 := ((Below.refl w1.heap.size w1).alloc (Nat.le_refl _) _).trans (hb2.mono (by first | (simp; done) | (simp; omega))); have S_f_2 := hid (S_f_1.out.below hb2); have S_a_2 := hid ho2.sl; clear ho2; have HB2 := hid (HB1.out.trans (hb2.mono HB1.out.size)); clear hb2)
      | (have _u := HB0; clear _u; go_at_call 16; refine (G1.out _ _ (lit_sl (by first | simp | rfl) rfl rfl (by simp))).mono ?_; rintro e w1 ⟨v1, rfl, ho1, hb1⟩; replace hb1 := ((Below.refl w.heap.size w).alloc (Nat.le_refl _) _).trans (hb1.mono (by first | (simp; done) | (simp; omega))); have S_f_1 := hid ho1.sl; clear ho1; have HB1 := hid (HB0.out.trans (hb1.mono HB0.out.size)); clear hb1))
    go_ret
    exact ⟨rfl, HB7.out⟩
  · have e1 := H1 x hl
    rw [hl] at G5
    clear H0 H1 H2 hl
    go_enter Try.func8, Try.ntmps8
    go_wp2_with (first
      | (have _u := HB6; clear _u; go_at_call 20; refine (HW.out _).mono ?_; rintro e w7 ⟨rfl, hb7⟩; have HB7 := hid (HB6.out.trans (hb7.mono HB6.out.size)); clear hb7)
      | (have _u := HB5; clear _u; go_at_call 13; refine (keepInts _ _ FC [c] _ (S_f_5.out.below (by (repeat (first | exact Below.refl _ _ | exact below_drewN _ | refine Below.drew ?_ | refine Below.alloc ?_ (by simp) _ | refine Below.setCell ?_ (by simp) _ | refine below_drewN' ?_ _)))) (lit_sl (by first | simp | rfl) rfl rfl (by simp))).mono ?_; rw [e1]; rintro e w6 ⟨rfl, n6, hw6⟩; have hb6 : Below w5.heap.size w5 w6 := (by rw [hw6]; exact below_drewN' ((Below.refl _ _).alloc (Nat.le_refl _) _) n6); clear hw6; have HB6 := hid (HB5.out.trans (hb6.mono HB5.out.size)); clear hb6)
      | (have _u := HB4; clear _u; go_at_call 22; refine (G5.out _).mono ?_; rintro e w5 ⟨v5, rfl, ho5, hb5⟩; obtain ⟨al, cl, rfl⟩ := ho5.form; simp only [List.length_nil, List.length_cons, Nat.reduceAdd]; have S_f_5 := hid (S_f_4.out.below hb5); clear ho5; have HB5 := hid (HB4.out.trans (hb5.mono HB4.out.size)); clear hb5)
      | (have _u := HB3; clear _u; go_at_call 13; refine (keepInts _ _ A A _ S_af_3.out S_a_3.out).mono ?_; rw [eqL_self]; rintro e w4 ⟨rfl, n4, hw4⟩; have hb4 : Below w3.heap.size w3 w4 := (by rw [hw4]; exact below_drewN n4); clear hw4; have S_f_4 := hid (S_f_3.out.below hb4); have HB4 := hid (HB3.out.trans (hb4.mono HB3.out.size)); clear hb4)
      | (have _u := HB2; clear _u; go_at_call 14; with_reducible refine (G3.out _ _ S_f_2.out).mono ?_; rintro e w3 ⟨v3, rfl, ho3, hb3⟩; have S_f_3 := hid (S_f_2.out.below hb3); have S_a_3 := hid (S_a_2.out.below hb3); have S_af_3 := hid ho3.sl; clear ho3; have HB3 := hid (HB2.out.trans (hb3.mono HB2.out.size)); clear hb3)
      | (have _u := HB1; clear _u; go_at_call 14; refine (G2.out _ _ (lit_sl (by first | simp | rfl) rfl rfl (by simp))).mono ?_; rintro e w2 ⟨v2, rfl, ho2, hb2⟩; replace hb2 := ((Below.refl w1.heap.size w1).alloc (Nat.le_refl _) _).trans (hb2.mono (by first | (simp; done) | (simp; omega))); have S_f_2 := hid (S_f_1.out.below hb2); have S_a_2 := hid ho2.sl; clear ho2; have HB2 := hid (HB1.out.trans (hb2.mono HB1.out.size)); clear hb2)
      | (have _u := HB0; clear _u; go_at_call 16; refine (G1.out _ _ (lit_sl (by first | simp | rfl) rfl rfl (by simp))).mono ?_; rintro e w1 ⟨v1, rfl, ho1, hb1⟩; replace hb1 := ((Below.refl w.heap.size w).alloc (Nat.le_refl _) _).trans (hb1.mono (by first | (simp; done) | (simp; omega))); have S_f_1 := hid ho1.sl; clear ho1; have HB1 := hid (HB0.out.trans (hb1.mono HB0.out.size)); clear hb1))
    go_ret
    exact ⟨rfl, HB7.out⟩
  · have e2 := H2 x y hl
    rw [hl] at G5
    clear H0 H1 H2 hl
    have G6 := hid (fun w => ucdPair x y w)
    generalize pairS x y = Q at G6 e2
    obtain ⟨d, ok⟩ := Q
    dsimp only at G6 e2
    cases ok with
    | false =>
      rw [Bool.false_and] at e2
      go_enter Try.func8, Try.ntmps8
      go_upto_region 9 with (first
        | (have _u := HB7; clear _u; go_at_call 20; refine (HW.out _).mono ?_; rintro e w8 ⟨rfl, hb8⟩; have HB8 := hid (HB7.out.trans (hb8.mono HB7.out.size)); clear hb8)
        | (have _u := HB6; clear _u; go_at_call 13; refine (keepInts _ _ FC [c] _ (S_f_6.out.below (by (repeat (first | exact Below.refl _ _ | exact below_drewN _ | refine Below.drew ?_ | refine Below.alloc ?_ (by simp) _ | refine Below.setCell ?_ (by simp) _ | refine below_drewN' ?_ _)))) (lit_sl (by first | simp | rfl) rfl rfl (by simp))).mono ?_; rw [e2]; rintro e w7 ⟨rfl, n7, hw7⟩; have hb7 : Below w6.heap.size w6 w7 := (by rw [hw7]; exact below_drewN' ((Below.refl _ _).alloc (Nat.le_refl _) _) n7); clear hw7; have HB7 := hid (HB6.out.trans (hb7.mono HB6.out.size)); clear hb7)
        | (have _u := HB5; clear _u; go_at_call 23; refine (G6.out _).mono ?_; rintro e w6 ⟨rfl, hb6⟩; replace hb6 : Below w5.heap.size w5 w6 := ⟨hb6.os, hb6.tape, hb6.output, hb6.size, hb6.block⟩; have S_f_6 := hid (S_f_5.out.below hb6); have HB6 := hid (HB5.out.trans (hb6.mono HB5.out.size)); clear hb6)
        | (have _u := HB4; clear _u; go_at_call 22; refine (G5.out _).mono ?_; rintro e w5 ⟨v5, rfl, ho5, hb5⟩; obtain ⟨bl, ol, cl, rfl, hx, hy⟩ := ho5.two; have S_f_5 := hid (S_f_4.out.below hb5); clear ho5; have HB5 := hid (HB4.out.trans (hb5.mono HB4.out.size)); clear hb5)
        | (have _u := HB3; clear _u; go_at_call 13; refine (keepInts _ _ A A _ S_af_3.out S_a_3.out).mono ?_; rw [eqL_self]; rintro e w4 ⟨rfl, n4, hw4⟩; have hb4 : Below w3.heap.size w3 w4 := (by rw [hw4]; exact below_drewN n4); clear hw4; have S_f_4 := hid (S_f_3.out.below hb4); have HB4 := hid (HB3.out.trans (hb4.mono HB3.out.size)); clear hb4)
        | (have _u := HB2; clear _u; go_at_call 14; with_reducible refine (G3.out _ _ S_f_2.out).mono ?_; rintro e w3 ⟨v3, rfl, ho3, hb3⟩; have S_f_3 := hid (S_f_2.out.below hb3); have S_a_3 := hid (S_a_2.out.below hb3); have S_af_3 := hid ho3.sl; clear ho3; have HB3 := hid (HB2.out.trans (hb3.mono HB2.out.size)); clear hb3)
        | (have _u := HB1; clear _u; go_at_call 14; refine (G2.out _ _ (lit_sl (by first | simp | rfl) rfl rfl (by simp))).mono ?_; rintro e w2 ⟨v2, rfl, ho2, hb2⟩; replace hb2 := ((Below.refl w1.heap.size w1).alloc (Nat.le_refl _) _).trans (hb2.mono (by first | (simp; done) | (simp; omega))); have S_f_2 := hid (S_f_1.out.below hb2); have S_a_2 := hid ho2.sl; clear ho2; have HB2 := hid (HB1.out.trans (hb2.mono HB1.out.size)); clear hb2)
        | (have _u := HB0; clear _u; go_at_call 16; refine (G1.out _ _ (lit_sl (by first | simp | rfl) rfl rfl (by simp))).mono ?_; rintro e w1 ⟨v1, rfl, ho1, hb1⟩; replace hb1 := ((Below.refl w.heap.size w).alloc (Nat.le_refl _) _).trans (hb1.mono (by first | (simp; done) | (simp; omega))); have S_f_1 := hid ho1.sl; clear ho1; have HB1 := hid (HB0.out.trans (hb1.mono HB0.out.size)); clear hb1))
      go_region_law (go_simp; go_at_call 23; refine (G6.out _).mono ?_; rintro e w6 ⟨rfl, hb6⟩; replace hb6 : Below w5.heap.size w5 w6 := ⟨hb6.os, hb6.tape, hb6.output, hb6.size, hb6.block⟩; have S_f_6 := hid (S_f_5.out.below hb6); have HB6 := hid (HB5.out.trans (hb6.mono HB5.out.size)); clear hb6)
      all_goals go_simp
      all_goals go_wp2_with (first
        | (have _u := HB7; clear _u; go_at_call 20; refine (HW.out _).mono ?_; rintro e w8 ⟨rfl, hb8⟩; have HB8 := hid (HB7.out.trans (hb8.mono HB7.out.size)); clear hb8)
        | (have _u := HB6; clear _u; go_at_call 13; refine (keepInts _ _ FC [c] _ (S_f_6.out.below (by (repeat (first | exact Below.refl _ _ | exact below_drewN _ | refine Below.drew ?_ | refine Below.alloc ?_ (by simp) _ | refine Below.setCell ?_ (by simp) _ | refine below_drewN' ?_ _)))) (lit_sl (by first | simp | rfl) rfl rfl (by simp))).mono ?_; rw [e2]; rintro e w7 ⟨rfl, n7, hw7⟩; have hb7 : Below w6.heap.size w6 w7 := (by rw [hw7]; exact below_drewN' ((Below.refl _ _).alloc (Nat.le_refl _) _) n7); clear hw7; have HB7 := hid (HB6.out.trans (hb7.mono HB6.out.size)); clear hb7)
        | (have _u := HB5; clear _u; go_at_call 23; refine (G6.out _).mono ?_; rintro e w6 ⟨rfl, hb6⟩; replace hb6 : Below w5.heap.size w5 w6 := ⟨hb6.os, hb6.tape, hb6.output, hb6.size, hb6.block⟩; have S_f_6 := hid (S_f_5.out.below hb6); have HB6 := hid (HB5.out.trans (hb6.mono HB5.out.size)); clear hb6)
        | (have _u := HB4; clear _u; go_at_call 22; refine (G5.out _).mono ?_; rintro e w5 ⟨v5, rfl, ho5, hb5⟩; obtain ⟨bl, ol, cl, rfl, hx, hy⟩ := ho5.two; have S_f_5 := hid (S_f_4.out.below hb5); clear ho5; have HB5 := hid (HB4.out.trans (hb5.mono HB4.out.size)); clear hb5)
        | (have _u := HB3; clear _u; go_at_call 13; refine (keepInts _ _ A A _ S_af_3.out S_a_3.out).mono ?_; rw [eqL_self]; rintro e w4 ⟨rfl, n4, hw4⟩; have hb4 : Below w3.heap.size w3 w4 := (by rw [hw4]; exact below_drewN n4); clear hw4; have S_f_4 := hid (S_f_3.out.below hb4); have HB4 := hid (HB3.out.trans (hb4.mono HB3.out.size)); clear hb4)
        | (have _u := HB2; clear _u; go_at_call 14; with_reducible refine (G3.out _ _ S_f_2.out).mono ?_; rintro e w3 ⟨v3, rfl, ho3, hb3⟩; have S_f_3 := hid (S_f_2.out.below hb3); have S_a_3 := hid (S_a_2.out.below hb3); have S_af_3 := hid ho3.sl; clear ho3; have HB3 := hid (HB2.out.trans (hb3.mono HB2.out.size)); clear hb3)
        | (have _u := HB1; clear _u; go_at_call 14; refine (G2.out _ _ (lit_sl (by first | simp | rfl) rfl rfl (by simp))).mono ?_; rintro e w2 ⟨v2, rfl, ho2, hb2⟩; replace hb2 := ((Below.refl w1.heap.size w1).alloc (Nat.le_refl _) _).trans (hb2.mono (by first | (simp; done) | (simp; omega))); have S_f_2 := hid (S_f_1.out.below hb2); have S_a_2 := hid ho2.sl; clear ho2; have HB2 := hid (HB1.out.trans (hb2.mono HB1.out.size)); clear hb2)
        | (have _u := HB0; clear _u; go_at_call 16; refine (G1.out _ _ (lit_sl (by first | simp | rfl) rfl rfl (by simp))).mono ?_; rintro e w1 ⟨v1, rfl, ho1, hb1⟩; replace hb1 := ((Below.refl w.heap.size w).alloc (Nat.le_refl _) _).trans (hb1.mono (by first | (simp; done) | (simp; omega))); have S_f_1 := hid ho1.sl; clear ho1; have HB1 := hid (HB0.out.trans (hb1.mono HB0.out.size)); clear hb1))
      all_goals (go_ret; exact ⟨rfl, HB8.out⟩)
    | true =>
      rw [Bool.true_and] at e2
      generalize hp : (d == c) = p at e2
      cases p with
      | false =>
        go_enter Try.func8, Try.ntmps8
        go_upto_region 9 with (first
          | (have _u := HB7; clear _u; go_at_call 20; refine (HW.out _).mono ?_; rintro e w8 ⟨rfl, hb8⟩; have HB8 := hid (HB7.out.trans (hb8.mono HB7.out.size)); clear hb8)
          | (have _u := HB6; clear _u; go_at_call 13; refine (keepInts _ _ FC [c] _ (S_f_6.out.below (by (repeat (first | exact Below.refl _ _ | exact below_drewN _ | refine Below.drew ?_ | refine Below.alloc ?_ (by simp) _ | refine Below.setCell ?_ (by simp) _ | refine below_drewN' ?_ _)))) (lit_sl (by first | simp | rfl) rfl rfl (by simp))).mono ?_; rw [e2]; rintro e w7 ⟨rfl, n7, hw7⟩; have hb7 : Below w6.heap.size w6 w7 := (by rw [hw7]; exact below_drewN' ((Below.refl _ _).alloc (Nat.le_refl _) _) n7); clear hw7; have HB7 := hid (HB6.out.trans (hb7.mono HB6.out.size)); clear hb7)
          | (have _u := HB5; clear _u; go_at_call 23; refine (G6.out _).mono ?_; rintro e w6 ⟨rfl, hb6⟩; replace hb6 : Below w5.heap.size w5 w6 := ⟨hb6.os, hb6.tape, hb6.output, hb6.size, hb6.block⟩; have S_f_6 := hid (S_f_5.out.below hb6); have HB6 := hid (HB5.out.trans (hb6.mono HB5.out.size)); clear hb6)
          | (have _u := HB4; clear _u; go_at_call 22; refine (G5.out _).mono ?_; rintro e w5 ⟨v5, rfl, ho5, hb5⟩; obtain ⟨bl, ol, cl, rfl, hx, hy⟩ := ho5.two; have S_f_5 := hid (S_f_4.out.below hb5); clear ho5; have HB5 := hid (HB4.out.trans (hb5.mono HB4.out.size)); clear hb5)
          | (have _u := HB3; clear _u; go_at_call 13; refine (keepInts _ _ A A _ S_af_3.out S_a_3.out).mono ?_; rw [eqL_self]; rintro e w4 ⟨rfl, n4, hw4⟩; have hb4 : Below w3.heap.size w3 w4 := (by rw [hw4]; exact below_drewN n4); clear hw4; have S_f_4 := hid (S_f_3.out.below hb4); have HB4 := hid (HB3.out.trans (hb4.mono HB3.out.size)); clear hb4)
          | (have _u := HB2; clear _u; go_at_call 14; with_reducible refine (G3.out _ _ S_f_2.out).mono ?_; rintro e w3 ⟨v3, rfl, ho3, hb3⟩; have S_f_3 := hid (S_f_2.out.below hb3); have S_a_3 := hid (S_a_2.out.below hb3); have S_af_3 := hid ho3.sl; clear ho3; have HB3 := hid (HB2.out.trans (hb3.mono HB2.out.size)); clear hb3)
          | (have _u := HB1; clear _u; go_at_call 14; refine (G2.out _ _ (lit_sl (by first | simp | rfl) rfl rfl (by simp))).mono ?_; rintro e w2 ⟨v2, rfl, ho2, hb2⟩; replace hb2 := ((Below.refl w1.heap.size w1).alloc (Nat.le_refl _) _).trans (hb2.mono (by first | (simp; done) | (simp; omega))); have S_f_2 := hid (S_f_1.out.below hb2); have S_a_2 := hid ho2.sl; clear ho2; have HB2 := hid (HB1.out.trans (hb2.mono HB1.out.size)); clear hb2)
          | (have _u := HB0; clear _u; go_at_call 16; refine (G1.out _ _ (lit_sl (by first | simp | rfl) rfl rfl (by simp))).mono ?_; rintro e w1 ⟨v1, rfl, ho1, hb1⟩; replace hb1 := ((Below.refl w.heap.size w).alloc (Nat.le_refl _) _).trans (hb1.mono (by first | (simp; done) | (simp; omega))); have S_f_1 := hid ho1.sl; clear ho1; have HB1 := hid (HB0.out.trans (hb1.mono HB0.out.size)); clear hb1))
        go_region_law (go_simp; go_at_call 23; refine (G6.out _).mono ?_; rintro e w6 ⟨rfl, hb6⟩; replace hb6 : Below w5.heap.size w5 w6 := ⟨hb6.os, hb6.tape, hb6.output, hb6.size, hb6.block⟩; have S_f_6 := hid (S_f_5.out.below hb6); have HB6 := hid (HB5.out.trans (hb6.mono HB5.out.size)); clear hb6)
        all_goals go_simp
        all_goals go_wp2_with (first
          | (have _u := HB7; clear _u; go_at_call 20; refine (HW.out _).mono ?_; rintro e w8 ⟨rfl, hb8⟩; have HB8 := hid (HB7.out.trans (hb8.mono HB7.out.size)); clear hb8)
          | (have _u := HB6; clear _u; go_at_call 13; refine (keepInts _ _ FC [c] _ (S_f_6.out.below (by (repeat (first | exact Below.refl _ _ | exact below_drewN _ | refine Below.drew ?_ | refine Below.alloc ?_ (by simp) _ | refine Below.setCell ?_ (by simp) _ | refine below_drewN' ?_ _)))) (lit_sl (by first | simp | rfl) rfl rfl (by simp))).mono ?_; rw [e2]; rintro e w7 ⟨rfl, n7, hw7⟩; have hb7 : Below w6.heap.size w6 w7 := (by rw [hw7]; exact below_drewN' ((Below.refl _ _).alloc (Nat.le_refl _) _) n7); clear hw7; have HB7 := hid (HB6.out.trans (hb7.mono HB6.out.size)); clear hb7)
          | (have _u := HB5; clear _u; go_at_call 23; refine (G6.out _).mono ?_; rintro e w6 ⟨rfl, hb6⟩; replace hb6 : Below w5.heap.size w5 w6 := ⟨hb6.os, hb6.tape, hb6.output, hb6.size, hb6.block⟩; have S_f_6 := hid (S_f_5.out.below hb6); have HB6 := hid (HB5.out.trans (hb6.mono HB5.out.size)); clear hb6)
          | (have _u := HB4; clear _u; go_at_call 22; refine (G5.out _).mono ?_; rintro e w5 ⟨v5, rfl, ho5, hb5⟩; obtain ⟨bl, ol, cl, rfl, hx, hy⟩ := ho5.two; have S_f_5 := hid (S_f_4.out.below hb5); clear ho5; have HB5 := hid (HB4.out.trans (hb5.mono HB4.out.size)); clear hb5)
          | (have _u := HB3; clear _u; go_at_call 13; refine (keepInts _ _ A A _ S_af_3.out S_a_3.out).mono ?_; rw [eqL_self]; rintro e w4 ⟨rfl, n4, hw4⟩; have hb4 : Below w3.heap.size w3 w4 := (by rw [hw4]; exact below_drewN n4); clear hw4; have S_f_4 := hid (S_f_3.out.below hb4); have HB4 := hid (HB3.out.trans (hb4.mono HB3.out.size)); clear hb4)
          | (have _u := HB2; clear _u; go_at_call 14; with_reducible refine (G3.out _ _ S_f_2.out).mono ?_; rintro e w3 ⟨v3, rfl, ho3, hb3⟩; have S_f_3 := hid (S_f_2.out.below hb3); have S_a_3 := hid (S_a_2.out.below hb3); have S_af_3 := hid ho3.sl; clear ho3; have HB3 := hid (HB2.out.trans (hb3.mono HB2.out.size)); clear hb3)
          | (have _u := HB1; clear _u; go_at_call 14; refine (G2.out _ _ (lit_sl (by first | simp | rfl) rfl rfl (by simp))).mono ?_; rintro e w2 ⟨v2, rfl, ho2, hb2⟩; replace hb2 := ((Below.refl w1.heap.size w1).alloc (Nat.le_refl _) _).trans (hb2.mono (by first | (simp; done) | (simp; omega))); have S_f_2 := hid (S_f_1.out.below hb2); have S_a_2 := hid ho2.sl; clear ho2; have HB2 := hid (HB1.out.trans (hb2.mono HB1.out.size)); clear hb2)
          | (have _u := HB0; clear _u; go_at_call 16; refine (G1.out _ _ (lit_sl (by first | simp | rfl) rfl rfl (by simp))).mono ?_; rintro e w1 ⟨v1, rfl, ho1, hb1⟩; replace hb1 := ((Below.refl w.heap.size w).alloc (Nat.le_refl _) _).trans (hb1.mono (by first | (simp; done) | (simp; omega))); have S_f_1 := hid ho1.sl; clear ho1; have HB1 := hid (HB0.out.trans (hb1.mono HB0.out.size)); clear hb1))
        all_goals (go_ret; exact ⟨rfl, HB8.out⟩)
      | true =>
        go_enter Try.func8, Try.ntmps8
        go_upto_region 9 with (first
          | (have _u := HB7; clear _u; go_at_call 20; refine (HW.out _).mono ?_; rintro e w8 ⟨rfl, hb8⟩; have HB8 := hid (HB7.out.trans (hb8.mono HB7.out.size)); clear hb8)
          | (have _u := HB6; clear _u; go_at_call 13; refine (keepInts _ _ FC [c] _ (S_f_6.out.below (by (repeat (first | exact Below.refl _ _ | exact below_drewN _ | refine Below.drew ?_ | refine Below.alloc ?_ (by simp) _ | refine Below.setCell ?_ (by simp) _ | refine below_drewN' ?_ _)))) (lit_sl (by first | simp | rfl) rfl rfl (by simp))).mono ?_; rw [e2]; rintro e w7 ⟨rfl, n7, hw7⟩; have hb7 : Below w6.heap.size w6 w7 := (by rw [hw7]; exact below_drewN' ((Below.refl _ _).alloc (Nat.le_refl _) _) n7); clear hw7; have HB7 := hid (HB6.out.trans (hb7.mono HB6.out.size)); clear hb7)
          | (have _u := HB5; clear _u; go_at_call 23; refine (G6.out _).mono ?_; rintro e w6 ⟨rfl, hb6⟩; replace hb6 : Below w5.heap.size w5 w6 := ⟨hb6.os, hb6.tape, hb6.output, hb6.size, hb6.block⟩; have S_f_6 := hid (S_f_5.out.below hb6); have HB6 := hid (HB5.out.trans (hb6.mono HB5.out.size)); clear hb6)
          | (have _u := HB4; clear _u; go_at_call 22; refine (G5.out _).mono ?_; rintro e w5 ⟨v5, rfl, ho5, hb5⟩; obtain ⟨bl, ol, cl, rfl, hx, hy⟩ := ho5.two; have S_f_5 := hid (S_f_4.out.below hb5); clear ho5; have HB5 := hid (HB4.out.trans (hb5.mono HB4.out.size)); clear hb5)
          | (have _u := HB3; clear _u; go_at_call 13; refine (keepInts _ _ A A _ S_af_3.out S_a_3.out).mono ?_; rw [eqL_self]; rintro e w4 ⟨rfl, n4, hw4⟩; have hb4 : Below w3.heap.size w3 w4 := (by rw [hw4]; exact below_drewN n4); clear hw4; have S_f_4 := hid (S_f_3.out.below hb4); have HB4 := hid (HB3.out.trans (hb4.mono HB3.out.size)); clear hb4)
          | (have _u := HB2; clear _u; go_at_call 14; with_reducible refine (G3.out _ _ S_f_2.out).mono ?_; rintro e w3 ⟨v3, rfl, ho3, hb3⟩; have S_f_3 := hid (S_f_2.out.below hb3); have S_a_3 := hid (S_a_2.out.below hb3); have S_af_3 := hid ho3.sl; clear ho3; have HB3 := hid (HB2.out.trans (hb3.mono HB2.out.size)); clear hb3)
          | (have _u := HB1; clear _u; go_at_call 14; refine (G2.out _ _ (lit_sl (by first | simp | rfl) rfl rfl (by simp))).mono ?_; rintro e w2 ⟨v2, rfl, ho2, hb2⟩; replace hb2 := ((Below.refl w1.heap.size w1).alloc (Nat.le_refl _) _).trans (hb2.mono (by first | (simp; done) | (simp; omega))); have S_f_2 := hid (S_f_1.out.below hb2); have S_a_2 := hid ho2.sl; clear ho2; have HB2 := hid (HB1.out.trans (hb2.mono HB1.out.size)); clear hb2)
          | (have _u := HB0; clear _u; go_at_call 16; refine (G1.out _ _ (lit_sl (by first | simp | rfl) rfl rfl (by simp))).mono ?_; rintro e w1 ⟨v1, rfl, ho1, hb1⟩; replace hb1 := ((Below.refl w.heap.size w).alloc (Nat.le_refl _) _).trans (hb1.mono (by first | (simp; done) | (simp; omega))); have S_f_1 := hid ho1.sl; clear ho1; have HB1 := hid (HB0.out.trans (hb1.mono HB0.out.size)); clear hb1))
        go_region_law (go_simp; go_at_call 23; refine (G6.out _).mono ?_; rintro e w6 ⟨rfl, hb6⟩; replace hb6 : Below w5.heap.size w5 w6 := ⟨hb6.os, hb6.tape, hb6.output, hb6.size, hb6.block⟩; have S_f_6 := hid (S_f_5.out.below hb6); have HB6 := hid (HB5.out.trans (hb6.mono HB5.out.size)); clear hb6)
        all_goals go_simp
        all_goals go_wp2_with (first
          | (have _u := HB7; clear _u; go_at_call 20; refine (HW.out _).mono ?_; rintro e w8 ⟨rfl, hb8⟩; have HB8 := hid (HB7.out.trans (hb8.mono HB7.out.size)); clear hb8)
          | (have _u := HB6; clear _u; go_at_call 13; refine (keepInts _ _ FC [c] _ (S_f_6.out.below (by (repeat (first | exact Below.refl _ _ | exact below_drewN _ | refine Below.drew ?_ | refine Below.alloc ?_ (by simp) _ | refine Below.setCell ?_ (by simp) _ | refine below_drewN' ?_ _)))) (lit_sl (by first | simp | rfl) rfl rfl (by simp))).mono ?_; rw [e2]; rintro e w7 ⟨rfl, n7, hw7⟩; have hb7 : Below w6.heap.size w6 w7 := (by rw [hw7]; exact below_drewN' ((Below.refl _ _).alloc (Nat.le_refl _) _) n7); clear hw7; have HB7 := hid (HB6.out.trans (hb7.mono HB6.out.size)); clear hb7)
          | (have _u := HB5; clear _u; go_at_call 23; refine (G6.out _).mono ?_; rintro e w6 ⟨rfl, hb6⟩; replace hb6 : Below w5.heap.size w5 w6 := ⟨hb6.os, hb6.tape, hb6.output, hb6.size, hb6.block⟩; have S_f_6 := hid (S_f_5.out.below hb6); have HB6 := hid (HB5.out.trans (hb6.mono HB5.out.size)); clear hb6)
          | (have _u := HB4; clear _u; go_at_call 22; refine (G5.out _).mono ?_; rintro e w5 ⟨v5, rfl, ho5, hb5⟩; obtain ⟨bl, ol, cl, rfl, hx, hy⟩ := ho5.two; have S_f_5 := hid (S_f_4.out.below hb5); clear ho5; have HB5 := hid (HB4.out.trans (hb5.mono HB4.out.size)); clear hb5)
          | (have _u := HB3; clear _u; go_at_call 13; refine (keepInts _ _ A A _ S_af_3.out S_a_3.out).mono ?_; rw [eqL_self]; rintro e w4 ⟨rfl, n4, hw4⟩; have hb4 : Below w3.heap.size w3 w4 := (by rw [hw4]; exact below_drewN n4); clear hw4; have S_f_4 := hid (S_f_3.out.below hb4); have HB4 := hid (HB3.out.trans (hb4.mono HB3.out.size)); clear hb4)
          | (have _u := HB2; clear _u; go_at_call 14; with_reducible refine (G3.out _ _ S_f_2.out).mono ?_; rintro e w3 ⟨v3, rfl, ho3, hb3⟩; have S_f_3 := hid (S_f_2.out.below hb3); have S_a_3 := hid (S_a_2.out.below hb3); have S_af_3 := hid ho3.sl; clear ho3; have HB3 := hid (HB2.out.trans (hb3.mono HB2.out.size)); clear hb3)
          | (have _u := HB1; clear _u; go_at_call 14; refine (G2.out _ _ (lit_sl (by first | simp | rfl) rfl rfl (by simp))).mono ?_; rintro e w2 ⟨v2, rfl, ho2, hb2⟩; replace hb2 := ((Below.refl w1.heap.size w1).alloc (Nat.le_refl _) _).trans (hb2.mono (by first | (simp; done) | (simp; omega))); have S_f_2 := hid (S_f_1.out.below hb2); have S_a_2 := hid ho2.sl; clear ho2; have HB2 := hid (HB1.out.trans (hb2.mono HB1.out.size)); clear hb2)
          | (have _u := HB0; clear _u; go_at_call 16; refine (G1.out _ _ (lit_sl (by first | simp | rfl) rfl rfl (by simp))).mono ?_; rintro e w1 ⟨v1, rfl, ho1, hb1⟩; replace hb1 := ((Below.refl w.heap.size w).alloc (Nat.le_refl _) _).trans (hb1.mono (by first | (simp; done) | (simp; omega))); have S_f_1 := hid ho1.sl; clear ho1; have HB1 := hid (HB0.out.trans (hb1.mono HB0.out.size)); clear hb1))
        all_goals (go_ret; exact ⟨rfl, HB8.out⟩)
end Go.Proofs.Ytimbchkoomjhkaa
