/- Several texts in one: LawSame11. -/
import Derived.Test.YtimbchkoomjhkaaPk18
import Derived.Test.YtimbchkoomjhkaaPk41
import Derived.Test.YtimbchkoomjhkaaPk12
import Derived.Test.YtimbchkoomjhkaaPk3
import Derived.Test.YtimbchkoomjhkaaPk20
import Derived.Deep.CutRange
import Derived.Deep.RegionLaw
import Derived.BigRegion
import Derived.Deep.RegionHeld3
/-! LawSame11 -/
namespace Go.Proofs.Ytimbchkoomjhkaa
open Go.RowKit

theorem eqL_comm11 (x y : List Int) : eqL x y = eqL y x := by
  rw [Bool.eq_iff_iff, eqL_iff, eqL_iff]
  exact eq_comm
set_option maxRecDepth 20000 in
set_option maxHeartbeats 8000000 in
theorem walkSame11 (HF : NFormOk) (HQ : NQuickOk) (HSM : NSameOk) (va vb vc : Value) (a b c : List Int) (at_ : Int) (w : World) (h1 : Sl .i64 w va a) (h2 : Sl .i64 w vb b) (h3 : Sl .i64 w vc c) (ha : a.all inI = true) (hb : b.all inI = true) (hc : c.all inI = true) :
    Calls Try.prog 6 #[va, vb, vc, .int .i64 at_] w fun e w' => e = .returned (.bool true) ∧ Below w.heap.size w w' := by
  have HS1 := hid h1
  have HS2 := hid h2
  have HS3 := hid h3
  have m1 := h1.len
  have m2 := h2.len
  have m3 := h3.len
  obtain ⟨a1, c1, hv1, q1, -, hx1⟩ := h1
  obtain ⟨a2, c2, hv2⟩ := h2.form
  obtain ⟨a3, c3, hv3⟩ := h3.form
  obtain ⟨n1, hn1⟩ : ∃ n, n = a.length := ⟨_, rfl⟩
  obtain ⟨n2, hn2⟩ : ∃ n, n = b.length := ⟨_, rfl⟩
  obtain ⟨n3, hn3⟩ : ∃ n, n = c.length := ⟨_, rfl⟩
  rw [← hn1] at hv1 m1 q1 hx1
  rw [← hn2] at hv2 m2
  rw [← hn3] at hv3 m3
  subst hv1 hv2 hv3
  have HN1 := hid hn1
  have HN2 := hid hn2
  have HN3 := hid hn3
  have HX1 := hid hx1
  have HW := hid (fun w => lawWakes11 HF HQ HSM w)
  have HB0 := hid (Below.refl w.heap.size w)
  clear hn1 hn2 hn3 h2 h3 hx1
  by_cases hl1 : n1 ≤ 200
  · by_cases hl2 : n2 ≤ 200
    · by_cases hl3 : n3 ≤ 200
      · have fa : ∀ k, FitsK k a := fun k => fits_small ha (by have := HN1.out; omega)
        have fb : ∀ k, FitsK k b := fun k => fits_small hb (by have := HN2.out; omega)
        have fc : ∀ k, FitsK k c := fun k => fits_small hc (by have := HN3.out; omega)
        have G1 := hid (fun va vb w h1 h2 => HSM false va vb a b w h1 h2 (fa _) (fb _))
        have G2 := hid (fun va vb w h1 h2 => HSM false va vb b c w h1 h2 (fb _) (fc _))
        have G3 := hid (fun va vb w h1 h2 => HSM false va vb b a w h1 h2 (fb _) (fa _))
        rw [eqL_comm11 (formS false b) (formS false a)] at G3
        have G4 := hid (fun va vb w h1 h2 => HSM false va vb a c w h1 h2 (fa _) (fc _))
        have G5 := hid (fun va vb w h1 h2 => HSM true va vb a b w h1 h2 (fa _) (fb _))
        have G6 := hid (fun va vb w h1 h2 => HSM false va vb a a w h1 h2 (fa _) (fa _))
        rw [eqL_self] at G6
        have E4 : eqL (formS false a) (formS false b) = true → eqL (formS false b) (formS false c) = true → eqL (formS false a) (formS false c) = true := fun h k => eqL_iff.2 ((eqL_iff.1 h).trans (eqL_iff.1 k))
        have E5 : eqL (formS false a) (formS false b) = true → eqL (formS true a) (formS true b) = true := fun h => eqL_iff.2 (same_true ha hb (eqL_iff.1 h))
        have GT := hid (fun v w h => keepTwinInts v a w h (by have := HN1.out; omega))
        have GD := hid (fun va vb d w h1 h2 h3 => HSM false va vb a d w h1 h2 (fa _) h3)
        have HI := hid ha
        generalize eqL (formS false a) (formS false b) = x at G1 G3 E4 E5
        generalize eqL (formS false b) (formS false c) = y at G2 E4
        generalize eqL (formS false a) (formS false c) = z at G4 E4
        generalize eqL (formS true a) (formS true b) = t at G5 E5
        clear HF HQ HSM ha hb hc fa fb fc
        go_enter Try.func6, Try.ntmps6
        go_upto_region 4 with (first
          | (have _u := HB5; clear _u; go_at_call 19; with_reducible refine (G6.out _ _ _ S_a_5.out S_a_5.out).mono ?_; rintro e w6 ⟨rfl, hb6⟩; have HB6 := hid (HB5.out.trans (hb6.mono HB5.out.size)); clear hb6)
          | (have _u := HB4; clear _u; go_at_call 19; with_reducible refine (G5.out _ _ _ S_a_4.out S_b_4.out).mono ?_; rintro e w5 ⟨rfl, hb5⟩; have S_a_5 := hid (S_a_4.out.below hb5); have HB5 := hid (HB4.out.trans (hb5.mono HB4.out.size)); clear hb5)
          | (have _u := HB3; clear _u; go_at_call 19; with_reducible refine (G4.out _ _ _ S_a_3.out S_c_3.out).mono ?_; rintro e w4 ⟨rfl, hb4⟩; have S_a_4 := hid (S_a_3.out.below hb4); have S_b_4 := hid (S_b_3.out.below hb4); have HB4 := hid (HB3.out.trans (hb4.mono HB3.out.size)); clear hb4)
          | (have _u := HB2; clear _u; go_at_call 19; with_reducible refine (G3.out _ _ _ S_b_2.out S_a_2.out).mono ?_; rintro e w3 ⟨rfl, hb3⟩; have S_a_3 := hid (S_a_2.out.below hb3); have S_b_3 := hid (S_b_2.out.below hb3); have S_c_3 := hid (S_c_2.out.below hb3); have HB3 := hid (HB2.out.trans (hb3.mono HB2.out.size)); clear hb3)
          | (have _u := HB1; clear _u; go_at_call 19; with_reducible refine (G2.out _ _ _ S_b_1.out S_c_1.out).mono ?_; rintro e w2 ⟨rfl, hb2⟩; have S_a_2 := hid (S_a_1.out.below hb2); have S_b_2 := hid (S_b_1.out.below hb2); have S_c_2 := hid (S_c_1.out.below hb2); have HB2 := hid (HB1.out.trans (hb2.mono HB1.out.size)); clear hb2)
          | (have _u := HB0; clear _u; go_at_call 19; with_reducible refine (G1.out _ _ _ HS1.out HS2.out).mono ?_; rintro e w1 ⟨rfl, hb1⟩; have S_a_1 := hid (HS1.out.below hb1); have S_b_1 := hid (HS2.out.below hb1); have S_c_1 := hid (HS3.out.below hb1); have HB1 := hid (HB0.out.trans (hb1.mono HB0.out.size)); clear hb1))
        go_cut [64] from 33 to 64 (fun bv wx => bv = .bool false ∧ Hid (Below w.heap.size w wx))
        case first =>
          cases x with
          | true =>
            have e5 := E5 rfl
            subst e5
            cases y with
            | true =>
              have e4 := E4 rfl rfl
              subst e4
              go_wp2_with (first
                | (have _u := HB5; clear _u; go_at_call 19; with_reducible refine (G6.out _ _ _ S_a_5.out S_a_5.out).mono ?_; rintro e w6 ⟨rfl, hb6⟩; have HB6 := hid (HB5.out.trans (hb6.mono HB5.out.size)); clear hb6)
                | (have _u := HB4; clear _u; go_at_call 19; with_reducible refine (G5.out _ _ _ S_a_4.out S_b_4.out).mono ?_; rintro e w5 ⟨rfl, hb5⟩; have S_a_5 := hid (S_a_4.out.below hb5); have HB5 := hid (HB4.out.trans (hb5.mono HB4.out.size)); clear hb5)
                | (have _u := HB3; clear _u; go_at_call 19; with_reducible refine (G4.out _ _ _ S_a_3.out S_c_3.out).mono ?_; rintro e w4 ⟨rfl, hb4⟩; have S_a_4 := hid (S_a_3.out.below hb4); have S_b_4 := hid (S_b_3.out.below hb4); have HB4 := hid (HB3.out.trans (hb4.mono HB3.out.size)); clear hb4)
                | (have _u := HB2; clear _u; go_at_call 19; with_reducible refine (G3.out _ _ _ S_b_2.out S_a_2.out).mono ?_; rintro e w3 ⟨rfl, hb3⟩; have S_a_3 := hid (S_a_2.out.below hb3); have S_b_3 := hid (S_b_2.out.below hb3); have S_c_3 := hid (S_c_2.out.below hb3); have HB3 := hid (HB2.out.trans (hb3.mono HB2.out.size)); clear hb3)
                | (have _u := HB1; clear _u; go_at_call 19; with_reducible refine (G2.out _ _ _ S_b_1.out S_c_1.out).mono ?_; rintro e w2 ⟨rfl, hb2⟩; have S_a_2 := hid (S_a_1.out.below hb2); have S_b_2 := hid (S_b_1.out.below hb2); have S_c_2 := hid (S_c_1.out.below hb2); have HB2 := hid (HB1.out.trans (hb2.mono HB1.out.size)); clear hb2)
                | (have _u := HB0; clear _u; go_at_call 19; with_reducible refine (G1.out _ _ _ HS1.out HS2.out).mono ?_; rintro e w1 ⟨rfl, hb1⟩; have S_a_1 := hid (HS1.out.below hb1); have S_b_1 := hid (HS2.out.below hb1); have S_c_1 := hid (HS3.out.below hb1); have HB1 := hid (HB0.out.trans (hb1.mono HB0.out.size)); clear hb1))
              go_meet
              case rel => exact ⟨rfl, HB6.out⟩
            | false =>
              go_wp2_with (first
                | (have _u := HB4; clear _u; go_at_call 19; with_reducible refine (G6.out _ _ _ S_a_4.out S_a_4.out).mono ?_; rintro e w5 ⟨rfl, hb5⟩; have HB5 := hid (HB4.out.trans (hb5.mono HB4.out.size)); clear hb5)
                | (have _u := HB3; clear _u; go_at_call 19; with_reducible refine (G5.out _ _ _ S_a_3.out S_b_3.out).mono ?_; rintro e w4 ⟨rfl, hb4⟩; have S_a_4 := hid (S_a_3.out.below hb4); have HB4 := hid (HB3.out.trans (hb4.mono HB3.out.size)); clear hb4)
                | (have _u := HB2; clear _u; go_at_call 19; with_reducible refine (G3.out _ _ _ S_b_2.out S_a_2.out).mono ?_; rintro e w3 ⟨rfl, hb3⟩; have S_a_3 := hid (S_a_2.out.below hb3); have S_b_3 := hid (S_b_2.out.below hb3); have HB3 := hid (HB2.out.trans (hb3.mono HB2.out.size)); clear hb3)
                | (have _u := HB1; clear _u; go_at_call 19; with_reducible refine (G2.out _ _ _ S_b_1.out S_c_1.out).mono ?_; rintro e w2 ⟨rfl, hb2⟩; have S_a_2 := hid (S_a_1.out.below hb2); have S_b_2 := hid (S_b_1.out.below hb2); have HB2 := hid (HB1.out.trans (hb2.mono HB1.out.size)); clear hb2)
                | (have _u := HB0; clear _u; go_at_call 19; with_reducible refine (G1.out _ _ _ HS1.out HS2.out).mono ?_; rintro e w1 ⟨rfl, hb1⟩; have S_a_1 := hid (HS1.out.below hb1); have S_b_1 := hid (HS2.out.below hb1); have S_c_1 := hid (HS3.out.below hb1); have HB1 := hid (HB0.out.trans (hb1.mono HB0.out.size)); clear hb1))
              go_meet
              case rel => exact ⟨rfl, HB5.out⟩
          | false =>
            cases y with
            | true =>
              go_wp2_with (first
                | (have _u := HB3; clear _u; go_at_call 19; with_reducible refine (G6.out _ _ _ S_a_3.out S_a_3.out).mono ?_; rintro e w4 ⟨rfl, hb4⟩; have HB4 := hid (HB3.out.trans (hb4.mono HB3.out.size)); clear hb4)
                | (have _u := HB2; clear _u; go_at_call 19; with_reducible refine (G3.out _ _ _ S_b_2.out S_a_2.out).mono ?_; rintro e w3 ⟨rfl, hb3⟩; have S_a_3 := hid (S_a_2.out.below hb3); have HB3 := hid (HB2.out.trans (hb3.mono HB2.out.size)); clear hb3)
                | (have _u := HB1; clear _u; go_at_call 19; with_reducible refine (G2.out _ _ _ S_b_1.out S_c_1.out).mono ?_; rintro e w2 ⟨rfl, hb2⟩; have S_a_2 := hid (S_a_1.out.below hb2); have S_b_2 := hid (S_b_1.out.below hb2); have HB2 := hid (HB1.out.trans (hb2.mono HB1.out.size)); clear hb2)
                | (have _u := HB0; clear _u; go_at_call 19; with_reducible refine (G1.out _ _ _ HS1.out HS2.out).mono ?_; rintro e w1 ⟨rfl, hb1⟩; have S_a_1 := hid (HS1.out.below hb1); have S_b_1 := hid (HS2.out.below hb1); have S_c_1 := hid (HS3.out.below hb1); have HB1 := hid (HB0.out.trans (hb1.mono HB0.out.size)); clear hb1))
              go_meet
              case rel => exact ⟨rfl, HB4.out⟩
            | false =>
              go_wp2_with (first
                | (have _u := HB3; clear _u; go_at_call 19; with_reducible refine (G6.out _ _ _ S_a_3.out S_a_3.out).mono ?_; rintro e w4 ⟨rfl, hb4⟩; have HB4 := hid (HB3.out.trans (hb4.mono HB3.out.size)); clear hb4)
                | (have _u := HB2; clear _u; go_at_call 19; with_reducible refine (G3.out _ _ _ S_b_2.out S_a_2.out).mono ?_; rintro e w3 ⟨rfl, hb3⟩; have S_a_3 := hid (S_a_2.out.below hb3); have HB3 := hid (HB2.out.trans (hb3.mono HB2.out.size)); clear hb3)
                | (have _u := HB1; clear _u; go_at_call 19; with_reducible refine (G2.out _ _ _ S_b_1.out S_c_1.out).mono ?_; rintro e w2 ⟨rfl, hb2⟩; have S_a_2 := hid (S_a_1.out.below hb2); have S_b_2 := hid (S_b_1.out.below hb2); have HB2 := hid (HB1.out.trans (hb2.mono HB1.out.size)); clear hb2)
                | (have _u := HB0; clear _u; go_at_call 19; with_reducible refine (G1.out _ _ _ HS1.out HS2.out).mono ?_; rintro e w1 ⟨rfl, hb1⟩; have S_a_1 := hid (HS1.out.below hb1); have S_b_1 := hid (HS2.out.below hb1); have S_c_1 := hid (HS3.out.below hb1); have HB1 := hid (HB0.out.trans (hb1.mono HB0.out.size)); clear hb1))
              go_meet
              case rel => exact ⟨rfl, HB4.out⟩
        case rest =>
          obtain ⟨rfl, hbc⟩ := hcut
          clear G1 G2 G3 G4 G5 G6 E4 E5
          by_cases hs : n1 < 2
          · go_wp2_with (go_at_call 20; refine (HW.out _).mono ?_; rintro e w1 ⟨rfl, hb1⟩; have HB1 := hid (hbc.out.trans (hb1.mono hbc.out.size)); clear hb1)
            go_ret
            exact ⟨rfl, HB1.out⟩
          · obtain ⟨m, hm⟩ : ∃ m : Nat, n1 = m + 1 := ⟨n1 - 1, by omega⟩
            have em : (n1 : Int) - 1 = (m : Int) := by omega
            have hm1 : 1 ≤ m := by omega
            have um : IntKind.u64.wrap (m : Int) = (m : Int) := by
              simp only [IntKind.wrap, IntKind.bits, IntKind.signed]
              simp
              omega
            have mz : ((m : Int) == 0) = false := by rw [beq_eq_false_iff_ne]; omega
            have HM := hid hm
            clear hm
            go_upto_region 9 with (fail)
            have hix := ixr at_ (m : Int) (by omega) (by omega)
            generalize wrap64 ((IntKind.u64.wrap at_).tmod (m : Int)) = ix at hix ⊢
            obtain ⟨d, rfl⟩ := Int.eq_ofNat_of_zero_le hix.1
            have hdm : d < m := by omega
            clear hix
            obtain ⟨d1, hd1⟩ : ∃ d1, d1 = d + 1 := ⟨_, rfl⟩
            have e1 : (d : Int) + 1 = (d1 : Int) := by omega
            have wd : IntKind.i64.wrap (d1 : Int) = (d1 : Int) := by rw [IntKind.wrap_i64]; omega
            have ln : d < n1 := by have := HM.out; omega
            have ln1 : d1 < n1 := by have := HM.out; omega
            rcases HX1.out with hc0 | ⟨b1, o1, rfl, hb1, hcl⟩
            · omega
            have hbl := hb1 (by omega)
            have x0 := (hbc.out.cell (p := ⟨b1, o1 + d, none⟩) hbl).trans (hcl d ln)
            have x1 := (hbc.out.cell (p := ⟨b1, o1 + d1, none⟩) hbl).trans (hcl d1 ln1)
            have hbw : b1 < wc.heap.size := Nat.lt_of_lt_of_le hbl hbc.out.size
            have HTN := hid (fun (h1 : classS (a.getD d 0) ≠ 0) (h2 : classS (a.getD d1 0) ≠ 0) (h3 : classS (a.getD d 0) ≠ classS (a.getD d1 0)) => (show formS false ((a.set d (a.getD d1 0)).set d1 (a.getD d 0)) = formS false a from by subst hd1; exact turned_form a (by rw [← HN1.out]; exact ln1) h1 h2 h3))
            have hdd : d ≠ d1 := by omega
            have HD1 := hid hd1
            clear hcl hb1 hd1
            generalize hX : a.getD d 0 = X at x0 HTN
            generalize hY : a.getD d1 0 = Y at x1 HTN
            have HXX := hid hX
            have HYY := hid hY
            have HC1 := hid (fun w => ucdClass X w)
            have HC2 := hid (fun w => ucdClass Y w)
            generalize classS X = p at HC1 HTN
            generalize classS Y = q at HC2 HTN
            clear hX hY
            go_cut [11, 12] from 77 to 87 (fun pv qv wx => pv = .int .i64 p ∧ qv = .int .i64 q ∧ Hid (Below wc.heap.size wc wx))
            case first =>
              go_region_law (first
                | (have _u := HBa; clear _u; go_simp; go_at_call 21; with_reducible refine (HC2.out _).mono ?_; rintro e wb ⟨rfl, hbb⟩; have HBb := hid (HBa.out.trans (hbb.mono HBa.out.size)); clear hbb)
                | (go_simp; go_at_call 21; with_reducible refine (HC1.out _).mono ?_; rintro e wa ⟨rfl, hba⟩; have HBa := hid ((Below.refl wc.heap.size wc).drew.trans (hba.mono (Below.refl wc.heap.size wc).drew.size)); have x1 := (HBa.out.cell (p := ⟨b1, o1 + d1, none⟩) hbw).trans x1; clear hba))
              all_goals go_simp
              all_goals go_wp2_with (fail)
              all_goals go_meet
              all_goals exact ⟨rfl, rfl, HBb.out⟩
            case rest =>
              obtain ⟨rfl, rfl, hbd⟩ := hcut
              have HBD := hid (hbc.out.trans (hbd.out.mono hbc.out.size))
              have x0 := (hbd.out.cell (p := ⟨b1, o1 + d, none⟩) hbw).trans x0
              have x1 := (hbd.out.cell (p := ⟨b1, o1 + d1, none⟩) hbw).trans x1
              clear HC1 HC2 hbd
              go_upto_region 10 with (fail)
              by_cases hp : p = 0
              · subst hp
                go_quiet (fail)
                go_wp2_with (go_at_call 20; refine (HW.out _).mono ?_; rintro e w9 ⟨rfl, hb9⟩; have HB9 := hid ((below_drewN' HBD.out nq).trans (hb9.mono (below_drewN' HBD.out nq).size)); clear hb9); go_ret; exact ⟨rfl, HB9.out⟩
              · have hpb : (p == 0) = false := beq_eq_false_iff_ne.2 hp
                by_cases hq : q = 0
                · subst hq
                  go_quiet (fail)
                  go_wp2_with (go_at_call 20; refine (HW.out _).mono ?_; rintro e w9 ⟨rfl, hb9⟩; have HB9 := hid ((below_drewN' HBD.out nq).trans (hb9.mono (below_drewN' HBD.out nq).size)); clear hb9); go_ret; exact ⟨rfl, HB9.out⟩
                · have hqb : (q == 0) = false := beq_eq_false_iff_ne.2 hq
                  by_cases hpq : p = q
                  · subst hpq
                    have hpp : (p == p) = true := by simp
                    go_quiet (fail)
                    go_wp2_with (go_at_call 20; refine (HW.out _).mono ?_; rintro e w9 ⟨rfl, hb9⟩; have HB9 := hid ((below_drewN' HBD.out nq).trans (hb9.mono (below_drewN' HBD.out nq).size)); clear hb9); go_ret; exact ⟨rfl, HB9.out⟩
                  · have hpqb : (p == q) = false := beq_eq_false_iff_ne.2 hpq
                    have HTN2 := hid (HTN.out hp hq hpq)
                    clear HTN
                    have HK1 := hid (fun w => ucdCanon X w)
                    have HK2 := hid (fun w => ucdCanon Y w)
                    have lk : ∀ z, (canonS z).length ≤ 2 := fun z => by
                      rcases canon_len z with h | ⟨_, h⟩ | ⟨_, _, h⟩ <;> rw [h] <;> simp
                    have lk1 := lk X
                    have lk2 := lk Y
                    generalize canonS X = L1 at HK1 lk1
                    generalize canonS Y = L2 at HK2 lk2
                    obtain ⟨k1, hk1⟩ : ∃ k, k = L1.length := ⟨_, rfl⟩
                    obtain ⟨k2, hk2⟩ : ∃ k, k = L2.length := ⟨_, rfl⟩
                    have HL1 := hid hk1
                    have HL2 := hid hk2
                    obtain ⟨kk, hkk⟩ : ∃ kk, kk = k1 + k2 := ⟨_, rfl⟩
                    have ekk : (k1 : Int) + (k2 : Int) = (kk : Int) := by omega
                    have wkk : IntKind.i64.wrap (kk : Int) = (kk : Int) := by rw [IntKind.wrap_i64]; omega
                    clear hk1 hk2 lk lk1 lk2 hkk
                    go_cut [115] from 88 to 115 (fun bv wx => bv = .bool (decide (0 < kk)) ∧ Hid (Below wc.heap.size wc wx))
                    case first =>
                      have hbw2 : b1 < wc.heap.size := Nat.lt_of_lt_of_le hbl HBD.out.size
                      have HSS := hid (fun (w' : World) (h : Below wc.heap.size wc w') => (show w'.cell? ⟨b1, o1 + d, none⟩ = some (.int .i64 X) ∧ w'.cell? ⟨b1, o1 + d1, none⟩ = some (.int .i64 Y) from ⟨(h.cell (p := ⟨b1, o1 + d, none⟩) hbw2).trans x0, (h.cell (p := ⟨b1, o1 + d1, none⟩) hbw2).trans x1⟩))
                      have HBq := hid (Below.refl wc.heap.size wc).drew
                      clear x0 x1
                      go_region_held3 (fun w' => w'.cell? ⟨b1, o1 + d, none⟩ = some (.int .i64 X) ∧ w'.cell? ⟨b1, o1 + d1, none⟩ = some (.int .i64 Y))
                        (first | exact HSS.out _ HBb.out | exact HSS.out _ HBa.out | exact HSS.out _ HBq.out)
                        (first
                          | (have _u := HBa; clear _u; go_simp; go_at_call 22; with_reducible refine (HK2.out _).mono ?_; rintro e wb ⟨v2, rfl, ho2, hbb⟩; obtain ⟨l2, g2, hv2⟩ := ho2.form; rw [← HL2.out] at hv2; subst hv2; have HBb := hid (HBa.out.trans (hbb.mono HBa.out.size)); clear hbb ho2)
                          | (go_simp; go_at_call 22; with_reducible refine (HK1.out _).mono ?_; rintro e wa ⟨v1, rfl, ho1, hba⟩; obtain ⟨l1, g1, hv1⟩ := ho1.form; rw [← HL1.out] at hv1; subst hv1; have HBa := hid (HBq.out.trans (hba.mono HBq.out.size)); clear hba ho1))
                      all_goals go_simp
                      all_goals go_wp2_with (fail)
                      all_goals go_meet
                      all_goals exact ⟨by first | rfl | simp, HBb.out⟩
                    case rest =>
                      obtain ⟨rfl, hbe⟩ := hcut
                      have HBE := hid (HBD.out.trans (hbe.out.mono HBD.out.size))
                      clear HK1 HK2 hbe ekk wkk x0 x1
                      by_cases hk0 : 0 < kk
                      · go_wp2_with (go_at_call 20; refine (HW.out _).mono ?_; rintro e w9 ⟨rfl, hb9⟩; have HB9 := hid (HBE.out.trans (hb9.mono HBE.out.size)); clear hb9)
                        go_ret
                        exact ⟨rfl, HB9.out⟩
                      · go_upto_region 13 with (go_at_call 11; refine (GT.out _ _ (HS1.out.below HBE.out)).mono ?_; rintro e w1 ⟨v1, rfl, ho1, hb1⟩; have HB1 := hid hb1; have HO1 := hid ho1; clear ho1 hb1)
                        rcases HO1.out.2 with ⟨_, h00⟩ | ⟨g, cap, cur, hv, _⟩
                        · rw [← HN1.out] at h00
                          omega
                        rw [← HN1.out] at hv
                        subst hv
                        obtain ⟨rest, hrow, hg, -, hcap, hcm⟩ := RowI.of_own HO1.out
                        have HROW := hid hrow
                        have HCAP := hid hcap
                        have HCM := hid hcm
                        have y0 := hrow.at (i := d) (by rw [← HN1.out]; exact ln)
                        have y1 := hrow.at (i := d1) (by rw [← HN1.out]; exact ln1)
                        have f0 := hrow.ice d
                        have f1 := hrow.ice d1
                        rw [HXX.out] at y0
                        rw [HYY.out] at y1
                        have hdd2 := Ne.symm hdd
                        clear hrow hcap hcm
                        have hnl : a.length = n1 := HN1.out.symm
                        obtain ⟨D, hD⟩ : ∃ D, D = (a.set d Y).set d1 X := ⟨_, rfl⟩
                        have hDl : D.length = n1 := by rw [hD, List.length_set, List.length_set]; exact hnl
                        have hDi : D.all inI = true := by
                          rw [List.all_eq_true]
                          intro u hu
                          have hg0 : ∀ j, j < n1 → inI (a.getD j 0) = true := fun j hj => by
                            have e : a.getD j 0 = a[j]'(by omega) := by rw [List.getD_eq_getElem?_getD, List.getElem?_eq_getElem (by omega)]; rfl
                            rw [e]
                            exact List.all_eq_true.1 HI.out _ (List.getElem_mem _)
                          rw [hD] at hu
                          rcases List.mem_or_eq_of_mem_set hu with hu | rfl
                          · rcases List.mem_or_eq_of_mem_set hu with hu | rfl
                            · exact List.all_eq_true.1 HI.out u hu
                            · rw [← HYY.out]; exact hg0 d1 ln1
                          · rw [← HXX.out]; exact hg0 d ln
                        have GDD := hid (fun va vb w h1 h2 => GD.out va vb D w h1 h2 (fits_small hDi (by omega)))
                        rw [hD, HTN2.out, eqL_self, ← hD] at GDD
                        have HDD := hid hD
                        have HDL := hid hDl
                        clear hnl hD hDl hDi HTN2 GD
                        go_big_region
                        all_goals go_wp2_with (first
                          | (have _u := HB8; clear _u; go_at_call 20; refine (HW.out _).mono ?_; rintro e w9 ⟨rfl, hb9⟩; have HB9 := hid (HB8.out.trans (hb9.mono HB8.out.size)); clear hb9)
                          | (go_at_call 19; have hro := (RowI.swap HROW.out (i := d) (j := d1) (by rw [← HN1.out]; exact ln) (by rw [← HN1.out]; exact ln1) Y X).drew; rw [← HDD.out] at hro; have hbo := hro.behind (HBE.out.trans (HB1.out.mono HBE.out.size)) (Nat.le_trans HBE.out.size hg) (HBE.out.trans (HB1.out.mono HBE.out.size)).size; have hso := hro.own (base := 0) (cap := cap) (Nat.zero_le _) (by rw [HDL.out]; exact HCAP.out) HCM.out; rw [HDL.out] at hso; have HSO := hid hso.sl; have HBO := hid hbo; clear hro hbo hso; refine (GDD.out _ _ _ (HS1.out.below HBO.out) HSO.out).mono ?_; rintro e w8 ⟨rfl, hb8⟩; have HB8 := hid (HBO.out.trans (hb8.mono HBO.out.size)); clear hb8))
                        go_ret
                        exact ⟨rfl, HB9.out⟩
      · have hl : 200 < n3 := by omega
        clear HF HQ HSM hl3
        go_enter Try.func6, Try.ntmps6
        go_wp2
        go_ret
        exact ⟨rfl, Below.refl _ _⟩
    · have hl : 200 < n2 := by omega
      clear HF HQ HSM hl2
      go_enter Try.func6, Try.ntmps6
      go_wp2
      go_ret
      exact ⟨rfl, Below.refl _ _⟩
  · have hl : 200 < n1 := by omega
    clear HF HQ HSM hl1
    go_enter Try.func6, Try.ntmps6
    go_wp2
    go_ret
    exact ⟨rfl, Below.refl _ _⟩
end Go.Proofs.Ytimbchkoomjhkaa
