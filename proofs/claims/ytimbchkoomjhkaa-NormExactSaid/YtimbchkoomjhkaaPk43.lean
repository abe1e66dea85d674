/- Several texts in one: LawChain11, Tail. -/
import Derived.Test.YtimbchkoomjhkaaPk18
import Derived.Test.YtimbchkoomjhkaaPk1
import Derived.StillTailTactics
/-! LawChain11 -/
namespace Go.Proofs.Ytimbchkoomjhkaa
open Go.RowKit

set_option maxHeartbeats 4000000 in
theorem walkChain11 (HA : NApartOk) (HF : NFormOk) (HQ : NQuickOk) (HSM : NSameOk) (v : Value) (s : List Int) (w : World) (h : Sl .i64 w v s) (hi : s.all inI = true) :
    Calls Try.prog 7 #[v] w fun e w' => e = .returned (.bool true) ∧ Below w.heap.size w w' := by
  have HS := hid h
  have ml := h.len
  obtain ⟨av, cv, hv⟩ := h.form
  obtain ⟨n, hn⟩ : ∃ n, n = s.length := ⟨_, rfl⟩
  rw [← hn] at hv ml
  subst hv
  have HN := hid hn
  have HW := hid (fun w => lawWakes11 HF HQ HSM w)
  have HB0 := hid (Below.refl w.heap.size w)
  clear hn h
  by_cases hl : n ≤ 200
  · have fit0 : FitsK false s := fits_small hi (by have := HN.out; omega)
    have fit1 : FitsK true s := fits_small hi (by have := HN.out; omega)
    have G1 := hid (fun v w h => HF true v s w h fit1)
    have G2 := hid (fun v w h => HF false v s w h fit0)
    have G3 := hid (fun v w h => HF true v (formS false s) w h (fits_true_form fit0 fit1))
    rw [form_true_form hi] at G3
    have G5 := hid (fun v w h => HA false v s w h fit0)
    have G6 := hid (fun v w h => HF true v (apartS false s) w h (fits_true_apart fit0 fit1))
    rw [form_true_apart hi] at G6
    have G8 := hid (fun v w h => HF false v (formS true s) w h (fits_false_form fit1))
    rw [form_false_form hi] at G8
    generalize formS true s = F at G1 G3 G6 G8
    generalize formS false s = C at G2 G3
    generalize apartS false s = A at G5 G6
    clear HA HF HQ HSM hi fit0 fit1
    go_enter Try.func7, Try.ntmps7
    go_wp2_with (first
      | (have _u := HB9; clear _u; go_at_call 20; refine (HW.out _).mono ?_; rintro e w10 ⟨rfl, hb10⟩; have HB10 := hid (HB9.out.trans (hb10.mono HB9.out.size)); clear hb10)
      | (have _u := HB8; clear _u; go_at_call 13; refine (keepInts _ _ F F _ S_ff_8.out S_f_8.out).mono ?_; rw [eqL_self]; rintro e w9 ⟨rfl, n9, hw9⟩; have hb9 : Below w8.heap.size w8 w9 := (by rw [hw9]; exact below_drewN n9); clear hw9; have HB9 := hid (HB8.out.trans (hb9.mono HB8.out.size)); clear hb9)
      | (have _u := HB7; clear _u; go_at_call 16; with_reducible refine (G8.out _ _ S_f_7.out).mono ?_; rintro e w8 ⟨v8, rfl, ho8, hb8⟩; have S_f_8 := hid (S_f_7.out.below hb8); have S_ff_8 := hid ho8.sl; clear ho8; have HB8 := hid (HB7.out.trans (hb8.mono HB7.out.size)); clear hb8)
      | (have _u := HB6; clear _u; go_at_call 13; refine (keepInts _ _ F F _ S_fa_6.out S_f_6.out).mono ?_; rw [eqL_self]; rintro e w7 ⟨rfl, n7, hw7⟩; have hb7 : Below w6.heap.size w6 w7 := (by rw [hw7]; exact below_drewN n7); clear hw7; have S_f_7 := hid (S_f_6.out.below hb7); have HB7 := hid (HB6.out.trans (hb7.mono HB6.out.size)); clear hb7)
      | (have _u := HB5; clear _u; go_at_call 16; with_reducible refine (G6.out _ _ S_a_5.out).mono ?_; rintro e w6 ⟨v6, rfl, ho6, hb6⟩; have S_f_6 := hid (S_f_5.out.below hb6); have S_fa_6 := hid ho6.sl; clear ho6; have HB6 := hid (HB5.out.trans (hb6.mono HB5.out.size)); clear hb6)
      | (have _u := HB4; clear _u; go_at_call 14; with_reducible refine (G5.out _ _ S_s_4.out).mono ?_; rintro e w5 ⟨v5, rfl, ho5, hb5⟩; have S_f_5 := hid (S_f_4.out.below hb5); have S_a_5 := hid ho5.sl; clear ho5; have HB5 := hid (HB4.out.trans (hb5.mono HB4.out.size)); clear hb5)
      | (have _u := HB3; clear _u; go_at_call 13; refine (keepInts _ _ F F _ S_fc_3.out S_f_3.out).mono ?_; rw [eqL_self]; rintro e w4 ⟨rfl, n4, hw4⟩; have hb4 : Below w3.heap.size w3 w4 := (by rw [hw4]; exact below_drewN n4); clear hw4; have S_s_4 := hid (S_s_3.out.below hb4); have S_f_4 := hid (S_f_3.out.below hb4); have HB4 := hid (HB3.out.trans (hb4.mono HB3.out.size)); clear hb4)
      | (have _u := HB2; clear _u; go_at_call 16; with_reducible refine (G3.out _ _ S_c_2.out).mono ?_; rintro e w3 ⟨v3, rfl, ho3, hb3⟩; have S_s_3 := hid (S_s_2.out.below hb3); have S_f_3 := hid (S_f_2.out.below hb3); have S_fc_3 := hid ho3.sl; clear ho3; have HB3 := hid (HB2.out.trans (hb3.mono HB2.out.size)); clear hb3)
      | (have _u := HB1; clear _u; go_at_call 16; with_reducible refine (G2.out _ _ S_s_1.out).mono ?_; rintro e w2 ⟨v2, rfl, ho2, hb2⟩; have S_s_2 := hid (S_s_1.out.below hb2); have S_f_2 := hid (S_f_1.out.below hb2); have S_c_2 := hid ho2.sl; clear ho2; have HB2 := hid (HB1.out.trans (hb2.mono HB1.out.size)); clear hb2)
      | (have _u := HB0; clear _u; go_at_call 16; with_reducible refine (G1.out _ _ HS.out).mono ?_; rintro e w1 ⟨v1, rfl, ho1, hb1⟩; have S_s_1 := hid (HS.out.below hb1); have S_f_1 := hid ho1.sl; clear ho1; have HB1 := hid (HB0.out.trans (hb1.mono HB0.out.size)); clear hb1))
    go_ret
    exact ⟨rfl, HB10.out⟩
  · have hl2 : 200 < n := by omega
    clear HF HA HQ HSM hl
    go_enter Try.func7, Try.ntmps7
    go_wp2
    go_ret
    exact ⟨rfl, Below.refl _ _⟩
end Go.Proofs.Ytimbchkoomjhkaa

/-! Tail -/
namespace Go.Proofs.Ytimbchkoomjhkaa
open Go.RowKit

theorem region_tail {P : Program} {id : Nat} {Q : Exit → Act → World → Prop} {a : Act} {w : World} {l : List Oper} (n : Nat) (hm : P.follows .mixedOrders = true) (hB : Region.lexTailB .any l.toArray n = true)
    (h : wpStill P l.toArray w.drew (fun a' => wpList P l.toArray Q (l.drop n) a' w.drew) (l.take n) a) : (Code.region id l.toArray true).wp P Q a w :=
  wp_region_still_tail n hm hB h
end Go.Proofs.Ytimbchkoomjhkaa
