/- Several texts in one: OpenB, OpenL, LawSteps21. -/
import Derived.Test.YtidjjaginindoaaGreatPk1
import Derived.ProofKit
import Derived.OpenShut
import Derived.ShutString
import Derived.ChangeOld
import Derived.Deep.Fields
import Derived.Test.YtidjjaginindoaaGreatPk25
import Derived.Test.YtidjjaginindoaaGreatPk3
/-! OpenB -/
namespace Go.Proofs.YtidjjaginindoaaGreat
open Go.ChangeShapes Go.WideShapes Go.ChangeAt Go.RowKit Go.Deep
set_option linter.unusedVariables false
section
variable {H : Type} {enc : TypeId × Value → H} {P : Program} {w : World} {base : Nat} {spare : Nat → Bool} {held : Bool} {r : Reach} {b0 : Nat} {v : Value} {d : DataW H} {p : List MemPlace}

theorem wf_u8 {x : Int} (h : (Lit.int .u8 x).wf = true) : 0 ≤ x ∧ x ≤ 255 := by
  simpa [Lit.wf, IntKind.min, IntKind.max, IntKind.signed, IntKind.bits] using h
theorem wf_i64 {x : Int} (h : (Lit.int .i64 x).wf = true) : -9223372036854775808 ≤ x ∧ x ≤ 9223372036854775807 := by
  simpa [Lit.wf, IntKind.min, IntKind.max, IntKind.signed, IntKind.bits] using h

theorem open_bytes {t e : TypeId} (ht : P.underlying t = some (.slice e)) (he : P.underlying e = some (.int .u8)) (hc : P.cellsOf e = 1) (hv : Value.okWide P w r b0 t v) (h : DataW.Trod enc P w base (fun _ => true) held t v d p) :
    ∃ xs, Sl .u8 w v xs ∧ U8 xs := by
  obtain ⟨a0, len0, cap0, rfl⟩ := okWide_slice ht hv
  obtain ⟨fuel, hf⟩ := h
  rcases open_ints ht he hc hf with ⟨hcs, _⟩ | ⟨x, l, c, zs, hcs, _, hl, hm, hz, _, hcell, hwz⟩
  · simp [Value.cells] at hcs
    obtain ⟨rfl, rfl, rfl⟩ := hcs
    exact ⟨[], ⟨none, 0, rfl, Nat.le_refl _, by unfold maxLen; omega, .inl rfl⟩, U8.nil⟩
  · simp [Value.cells] at hcs
    obtain ⟨rfl, rfl, rfl⟩ := hcs
    have hzl : zs.length = cap0 := by rw [hz]; simp
    have hlen : (zs.take len0).length = len0 := by simp; omega
    refine ⟨zs.take len0, ⟨some x, cap0, by rw [hlen], by rw [hlen]; exact hl, hm, ?_⟩, fun n hn => wf_u8 (hwz n (List.mem_of_mem_take hn))⟩
    rcases Nat.eq_zero_or_pos zs.length with h0 | h0
    · exact .inl (by omega)
    · obtain ⟨b, off, spot⟩ := x
      have hc0 := hcell 0 h0
      have hspot : spot = none := by simpa [Addr.add] using World.cell?_spot hc0
      subst hspot
      refine .inr ⟨b, off, rfl, fun _ => World.block_lt_of_cell? w _ hc0, fun i hi => ?_⟩
      rw [hlen] at hi
      have := hcell i (by omega)
      rw [show (⟨b, off, none⟩ : Addr).add i = ⟨b, off + i, none⟩ by unfold Addr.add; split <;> simp_all] at this
      rw [this]
      simp [List.getD_eq_getElem?_getD, hi]

end
end Go.Proofs.YtidjjaginindoaaGreat

/-! OpenL -/
namespace Go.Proofs.YtidjjaginindoaaGreat
open Go.ChangeShapes Go.WideShapes Go.ChangeAt Go.RowKit Go.Deep
set_option linter.unusedVariables false
section
variable {H : Type} {enc : TypeId × Value → H} {P : Program} {w : World} {base : Nat} {spare : Nat → Bool} {held : Bool} {r : Reach} {b0 : Nat} {v : Value} {d : DataW H} {p : List MemPlace}

theorem open_intl {t e : TypeId} (ht : P.underlying t = some (.slice e)) (he : P.underlying e = some (.int .i64)) (hc : P.cellsOf e = 1) (hv : Value.okWide P w r b0 t v) (h : DataW.Trod enc P w base (fun _ => true) held t v d p) :
    ∃ xs, Sl .i64 w v xs ∧ ∀ x ∈ xs, -9223372036854775808 ≤ x ∧ x ≤ 9223372036854775807 := by
  obtain ⟨a0, len0, cap0, rfl⟩ := okWide_slice ht hv
  obtain ⟨fuel, hf⟩ := h
  rcases open_ints ht he hc hf with ⟨hcs, _⟩ | ⟨x, l, c, zs, hcs, _, hl, hm, hz, _, hcell, hwz⟩
  · simp [Value.cells] at hcs
    obtain ⟨rfl, rfl, rfl⟩ := hcs
    exact ⟨[], ⟨none, 0, rfl, Nat.le_refl _, by unfold maxLen; omega, .inl rfl⟩, (fun _ h => by cases h)⟩
  · simp [Value.cells] at hcs
    obtain ⟨rfl, rfl, rfl⟩ := hcs
    have hzl : zs.length = cap0 := by rw [hz]; simp
    have hlen : (zs.take len0).length = len0 := by simp; omega
    refine ⟨zs.take len0, ⟨some x, cap0, by rw [hlen], by rw [hlen]; exact hl, hm, ?_⟩, fun n hn => wf_i64 (hwz n (List.mem_of_mem_take hn))⟩
    rcases Nat.eq_zero_or_pos zs.length with h0 | h0
    · exact .inl (by omega)
    · obtain ⟨b, off, spot⟩ := x
      have hc0 := hcell 0 h0
      have hspot : spot = none := by simpa [Addr.add] using World.cell?_spot hc0
      subst hspot
      refine .inr ⟨b, off, rfl, fun _ => World.block_lt_of_cell? w _ hc0, fun i hi => ?_⟩
      rw [hlen] at hi
      have := hcell i (by omega)
      rw [show (⟨b, off, none⟩ : Addr).add i = ⟨b, off + i, none⟩ by unfold Addr.add; split <;> simp_all] at this
      rw [this]
      simp [List.getD_eq_getElem?_getD, hi]

theorem open_inl {t e : TypeId} (ht : P.underlying t = some (.slice e)) (he : P.underlying e = some (.int .i64)) (hc : P.cellsOf e = 1) (hv : Value.okWide P w r b0 t v) (h : DataW.Trod enc P w base (fun _ => true) held t v d p) :
    ∃ xs : List Int, Sl .i64 w v xs ∧ xs.all inI = true := by
  obtain ⟨xs, h1, h2⟩ := open_intl ht he hc hv h
  exact ⟨xs, h1, List.all_eq_true.2 fun x hx => inI_of (h2 x hx)⟩
end
end Go.Proofs.YtidjjaginindoaaGreat

/-! LawSteps21 -/
namespace Go.Proofs.YtidjjaginindoaaGreat
open Go.RowKit

theorem prep_steps {r : Int} (s : List Int) (hr : ruleP r = true) : prepP r s = if alwP (formS true (mapP r s)) then some (spacesP r (formS true (mapP r s))) else none := by
  unfold prepP
  rw [hr, Bool.true_and]

set_option maxRecDepth 10000 in
set_option maxHeartbeats 4000000 in
theorem walkSteps21 (HM : PrMapOk) (HN : NFormOk) (HP : PrPrepOk) (HA : PrAllowedOk) (HS : PrSpacesOk) (v : Value) (s : List Int) (which : Int) (w : World) (hs : Sl .i64 w v s) (hi : s.all inI = true) :
    Calls Tryz.prog 4 #[v, .int .i64 which] w fun e w' => e = .returned (.bool true) ∧ Below w.heap.size w w' := by
  have HS_s := hid hs
  have ml_s := hs.len
  obtain ⟨a_s, c_s, hv_s⟩ := hs.form
  obtain ⟨n, hn_s⟩ : ∃ n, n = s.length := ⟨_, rfl⟩
  rw [← hn_s] at hv_s ml_s
  subst hv_s
  have HN_s := hid hn_s
  clear hn_s hs
  have HW := hid (fun w => lawWakes21 HP w)
  have HB0 := hid (Below.refl w.heap.size w)
  by_cases hl_n : n ≤ 150
  · have ln := HN_s.out
    obtain ⟨J, hJ, hJ1, hJ2⟩ := ix_rem which 3 (by omega) (by omega)
    have key : ∃ r, ruleP r = true ∧ inI r = true ∧ ((J = 0 ∧ r = 1) ∨ (J = 1 ∧ r = 2) ∨ (J = 2 ∧ r = 3)) := by
      by_cases h : J = 0
      · exact ⟨1, by decide, by decide, .inl ⟨h, rfl⟩⟩
      by_cases h : J = 1
      · exact ⟨2, by decide, by decide, .inr (.inl ⟨h, rfl⟩)⟩
      · exact ⟨3, by decide, by decide, .inr (.inr ⟨by omega, rfl⟩)⟩
    obtain ⟨r, hr, hr2, hJr⟩ := key
    have hf := fits_map (r := r) hi (by omega)
    have hps := prep_steps s hr
    have hxi := form_inI (k := true) (mapP_inI (r := r) hi)
    have hxl : (formS true (mapP r s)).length ≤ 1000000 := Nat.le_trans (form_len true _) hf.2.2
    have G1 := hid (fun v w h => HM r v s w hr2 h hi (by omega))
    have G2 := hid (fun v w h => HN true v (mapP r s) w h hf)
    have G3 := hid (fun v w h => HP r v s w hr2 h hi (by omega) hf)
    have G4 := hid (fun v w h => HA v (formS true (mapP r s)) w h hxi hxl)
    have G5 := hid (fun v w h => HS r v (formS true (mapP r s)) w hr2 h hxi hxl)
    generalize prepP r s = p at G3 hps
    generalize hX : formS true (mapP r s) = X at G2 G4 G5 hps
    generalize mapP r s = M at G1 G2
    generalize hY : spacesP r X = Y at G5 hps
    generalize alwP X = a at G4 hps
    clear HM HN HP HA HS hf hxi hxl hr hr2 hi ln hX hY hJ1 hJ2
    cases a with
    | false =>
      simp only [Bool.false_eq_true, if_false] at hps
      subst hps
      simp only [Option.isSome_none, Option.getD_none] at G3
      clear G5
      rcases hJr with ⟨rfl, rfl⟩ | ⟨rfl, rfl⟩ | ⟨rfl, rfl⟩
      · go_enter Tryz.func4, Tryz.ntmps4
        go_wp2_with (first
          | (have _u := HB4; clear _u; go_at_call 20; refine (HW.out _).mono ?_; rintro e w5 ⟨rfl, hb⟩; have HB5 := hid (HB4.out.trans (hb.mono HB4.out.size)); clear hb)
          | (have _u := HB3; clear _u; go_at_call 16; refine (G4.out _ _ HX3.out).mono ?_; rintro e w4 ⟨rfl, hb4⟩; have HB4 := hid (HB3.out.trans (hb4.mono HB3.out.size)); have HX4 := hid (HX3.out.below hb4); have HY4 := hid (HY3.out.below hb4); clear hb4)
          | (have _u := HB2; clear _u; go_at_call 10; refine (G3.out _ _ HS2.out).mono ?_; rintro e w3 ⟨v3, rfl, ho3, hb3⟩; have HB3 := hid (HB2.out.trans (hb3.mono HB2.out.size)); have HX3 := hid (HX2.out.below hb3); have HY3 := hid ho3; clear hb3 ho3; obtain ⟨a3, c3, hv3⟩ := HY3.out.form; simp only [List.length_nil] at hv3; subst hv3)
          | (have _u := HB1; clear _u; go_at_call 21; refine (G2.out _ _ HM1.out).mono ?_; rintro e w2 ⟨v2, rfl, ho2, hb2⟩; have HB2 := hid (HB1.out.trans (hb2.mono HB1.out.size)); have HX2 := hid ho2.sl; have HS2 := hid (HS1.out.below hb2); clear hb2 ho2)
          | (go_at_call 14; refine (G1.out _ _ (HS_s.out.below (by (repeat (first | exact Below.refl _ _ | exact below_drewN _ | refine Below.drew ?_ | refine Below.alloc ?_ (by simp) _ | refine Below.setCell ?_ (by simp) _ | refine below_drewN' ?_ _))))).mono ?_; rintro e w1 ⟨v1, rfl, ho1, hb1⟩; have hb1' := hid (show Below w.heap.size w w1 from ((Below.refl w.heap.size w).alloc (Nat.le_refl _) _).trans (hb1.mono (by simp))); have HM1 := hid ho1; have HB1 := hid hb1'.out; have HS1 := hid (HS_s.out.below hb1'.out); clear hb1 hb1' ho1))
        go_ret
        exact ⟨rfl, HB5.out⟩
      · go_enter Tryz.func4, Tryz.ntmps4
        go_wp2_with (first
          | (have _u := HB4; clear _u; go_at_call 20; refine (HW.out _).mono ?_; rintro e w5 ⟨rfl, hb⟩; have HB5 := hid (HB4.out.trans (hb.mono HB4.out.size)); clear hb)
          | (have _u := HB3; clear _u; go_at_call 16; refine (G4.out _ _ HX3.out).mono ?_; rintro e w4 ⟨rfl, hb4⟩; have HB4 := hid (HB3.out.trans (hb4.mono HB3.out.size)); have HX4 := hid (HX3.out.below hb4); have HY4 := hid (HY3.out.below hb4); clear hb4)
          | (have _u := HB2; clear _u; go_at_call 10; refine (G3.out _ _ HS2.out).mono ?_; rintro e w3 ⟨v3, rfl, ho3, hb3⟩; have HB3 := hid (HB2.out.trans (hb3.mono HB2.out.size)); have HX3 := hid (HX2.out.below hb3); have HY3 := hid ho3; clear hb3 ho3; obtain ⟨a3, c3, hv3⟩ := HY3.out.form; simp only [List.length_nil] at hv3; subst hv3)
          | (have _u := HB1; clear _u; go_at_call 21; refine (G2.out _ _ HM1.out).mono ?_; rintro e w2 ⟨v2, rfl, ho2, hb2⟩; have HB2 := hid (HB1.out.trans (hb2.mono HB1.out.size)); have HX2 := hid ho2.sl; have HS2 := hid (HS1.out.below hb2); clear hb2 ho2)
          | (go_at_call 14; refine (G1.out _ _ (HS_s.out.below (by (repeat (first | exact Below.refl _ _ | exact below_drewN _ | refine Below.drew ?_ | refine Below.alloc ?_ (by simp) _ | refine Below.setCell ?_ (by simp) _ | refine below_drewN' ?_ _))))).mono ?_; rintro e w1 ⟨v1, rfl, ho1, hb1⟩; have hb1' := hid (show Below w.heap.size w w1 from ((Below.refl w.heap.size w).alloc (Nat.le_refl _) _).trans (hb1.mono (by simp))); have HM1 := hid ho1; have HB1 := hid hb1'.out; have HS1 := hid (HS_s.out.below hb1'.out); clear hb1 hb1' ho1))
        go_ret
        exact ⟨rfl, HB5.out⟩
      · go_enter Tryz.func4, Tryz.ntmps4
        go_wp2_with (first
          | (have _u := HB4; clear _u; go_at_call 20; refine (HW.out _).mono ?_; rintro e w5 ⟨rfl, hb⟩; have HB5 := hid (HB4.out.trans (hb.mono HB4.out.size)); clear hb)
          | (have _u := HB3; clear _u; go_at_call 16; refine (G4.out _ _ HX3.out).mono ?_; rintro e w4 ⟨rfl, hb4⟩; have HB4 := hid (HB3.out.trans (hb4.mono HB3.out.size)); have HX4 := hid (HX3.out.below hb4); have HY4 := hid (HY3.out.below hb4); clear hb4)
          | (have _u := HB2; clear _u; go_at_call 10; refine (G3.out _ _ HS2.out).mono ?_; rintro e w3 ⟨v3, rfl, ho3, hb3⟩; have HB3 := hid (HB2.out.trans (hb3.mono HB2.out.size)); have HX3 := hid (HX2.out.below hb3); have HY3 := hid ho3; clear hb3 ho3; obtain ⟨a3, c3, hv3⟩ := HY3.out.form; simp only [List.length_nil] at hv3; subst hv3)
          | (have _u := HB1; clear _u; go_at_call 21; refine (G2.out _ _ HM1.out).mono ?_; rintro e w2 ⟨v2, rfl, ho2, hb2⟩; have HB2 := hid (HB1.out.trans (hb2.mono HB1.out.size)); have HX2 := hid ho2.sl; have HS2 := hid (HS1.out.below hb2); clear hb2 ho2)
          | (go_at_call 14; refine (G1.out _ _ (HS_s.out.below (by (repeat (first | exact Below.refl _ _ | exact below_drewN _ | refine Below.drew ?_ | refine Below.alloc ?_ (by simp) _ | refine Below.setCell ?_ (by simp) _ | refine below_drewN' ?_ _))))).mono ?_; rintro e w1 ⟨v1, rfl, ho1, hb1⟩; have hb1' := hid (show Below w.heap.size w w1 from ((Below.refl w.heap.size w).alloc (Nat.le_refl _) _).trans (hb1.mono (by simp))); have HM1 := hid ho1; have HB1 := hid hb1'.out; have HS1 := hid (HS_s.out.below hb1'.out); clear hb1 hb1' ho1))
        go_ret
        exact ⟨rfl, HB5.out⟩
    | true =>
      simp only [if_true] at hps
      subst hps
      simp only [Option.isSome_some, Option.getD_some] at G3
      rcases hJr with ⟨rfl, rfl⟩ | ⟨rfl, rfl⟩ | ⟨rfl, rfl⟩
      · go_enter Tryz.func4, Tryz.ntmps4
        go_wp2_with (first
          | (have _u := HB6; clear _u; go_at_call 20; refine (HW.out _).mono ?_; rintro e w7 ⟨rfl, hb⟩; have HB7 := hid (HB6.out.trans (hb.mono HB6.out.size)); clear hb)
          | (have _u := HB5; clear _u; go_at_call 13; refine (keepInts _ _ Y Y _ HY5.out HZ5.out).mono ?_; rw [eqL_self]; rintro e w6 ⟨rfl, n6, hw6⟩; have HB6 := hid (show Below w.heap.size w w6 from by rw [hw6]; exact below_drewN' HB5.out n6); clear hw6)
          | (have _u := HB4; clear _u; go_at_call 18; refine (G5.out _ _ HX4.out).mono ?_; rintro e w5 ⟨v5, rfl, ho5, hb5⟩; have HB5 := hid (HB4.out.trans (hb5.mono HB4.out.size)); have HY5 := hid (HY4.out.below hb5); have HZ5 := hid ho5; clear hb5 ho5)
          | (have _u := HB3; clear _u; go_at_call 16; refine (G4.out _ _ HX3.out).mono ?_; rintro e w4 ⟨rfl, hb4⟩; have HB4 := hid (HB3.out.trans (hb4.mono HB3.out.size)); have HX4 := hid (HX3.out.below hb4); have HY4 := hid (HY3.out.below hb4); clear hb4)
          | (have _u := HB2; clear _u; go_at_call 10; refine (G3.out _ _ HS2.out).mono ?_; rintro e w3 ⟨v3, rfl, ho3, hb3⟩; have HB3 := hid (HB2.out.trans (hb3.mono HB2.out.size)); have HX3 := hid (HX2.out.below hb3); have HY3 := hid ho3; clear hb3 ho3)
          | (have _u := HB1; clear _u; go_at_call 21; refine (G2.out _ _ HM1.out).mono ?_; rintro e w2 ⟨v2, rfl, ho2, hb2⟩; have HB2 := hid (HB1.out.trans (hb2.mono HB1.out.size)); have HX2 := hid ho2.sl; have HS2 := hid (HS1.out.below hb2); clear hb2 ho2)
          | (go_at_call 14; refine (G1.out _ _ (HS_s.out.below (by (repeat (first | exact Below.refl _ _ | exact below_drewN _ | refine Below.drew ?_ | refine Below.alloc ?_ (by simp) _ | refine Below.setCell ?_ (by simp) _ | refine below_drewN' ?_ _))))).mono ?_; rintro e w1 ⟨v1, rfl, ho1, hb1⟩; have hb1' := hid (show Below w.heap.size w w1 from ((Below.refl w.heap.size w).alloc (Nat.le_refl _) _).trans (hb1.mono (by simp))); have HM1 := hid ho1; have HB1 := hid hb1'.out; have HS1 := hid (HS_s.out.below hb1'.out); clear hb1 hb1' ho1))
        go_ret
        exact ⟨rfl, HB7.out⟩
      · go_enter Tryz.func4, Tryz.ntmps4
        go_wp2_with (first
          | (have _u := HB6; clear _u; go_at_call 20; refine (HW.out _).mono ?_; rintro e w7 ⟨rfl, hb⟩; have HB7 := hid (HB6.out.trans (hb.mono HB6.out.size)); clear hb)
          | (have _u := HB5; clear _u; go_at_call 13; refine (keepInts _ _ Y Y _ HY5.out HZ5.out).mono ?_; rw [eqL_self]; rintro e w6 ⟨rfl, n6, hw6⟩; have HB6 := hid (show Below w.heap.size w w6 from by rw [hw6]; exact below_drewN' HB5.out n6); clear hw6)
          | (have _u := HB4; clear _u; go_at_call 18; refine (G5.out _ _ HX4.out).mono ?_; rintro e w5 ⟨v5, rfl, ho5, hb5⟩; have HB5 := hid (HB4.out.trans (hb5.mono HB4.out.size)); have HY5 := hid (HY4.out.below hb5); have HZ5 := hid ho5; clear hb5 ho5)
          | (have _u := HB3; clear _u; go_at_call 16; refine (G4.out _ _ HX3.out).mono ?_; rintro e w4 ⟨rfl, hb4⟩; have HB4 := hid (HB3.out.trans (hb4.mono HB3.out.size)); have HX4 := hid (HX3.out.below hb4); have HY4 := hid (HY3.out.below hb4); clear hb4)
          | (have _u := HB2; clear _u; go_at_call 10; refine (G3.out _ _ HS2.out).mono ?_; rintro e w3 ⟨v3, rfl, ho3, hb3⟩; have HB3 := hid (HB2.out.trans (hb3.mono HB2.out.size)); have HX3 := hid (HX2.out.below hb3); have HY3 := hid ho3; clear hb3 ho3)
          | (have _u := HB1; clear _u; go_at_call 21; refine (G2.out _ _ HM1.out).mono ?_; rintro e w2 ⟨v2, rfl, ho2, hb2⟩; have HB2 := hid (HB1.out.trans (hb2.mono HB1.out.size)); have HX2 := hid ho2.sl; have HS2 := hid (HS1.out.below hb2); clear hb2 ho2)
          | (go_at_call 14; refine (G1.out _ _ (HS_s.out.below (by (repeat (first | exact Below.refl _ _ | exact below_drewN _ | refine Below.drew ?_ | refine Below.alloc ?_ (by simp) _ | refine Below.setCell ?_ (by simp) _ | refine below_drewN' ?_ _))))).mono ?_; rintro e w1 ⟨v1, rfl, ho1, hb1⟩; have hb1' := hid (show Below w.heap.size w w1 from ((Below.refl w.heap.size w).alloc (Nat.le_refl _) _).trans (hb1.mono (by simp))); have HM1 := hid ho1; have HB1 := hid hb1'.out; have HS1 := hid (HS_s.out.below hb1'.out); clear hb1 hb1' ho1))
        go_ret
        exact ⟨rfl, HB7.out⟩
      · go_enter Tryz.func4, Tryz.ntmps4
        go_wp2_with (first
          | (have _u := HB6; clear _u; go_at_call 20; refine (HW.out _).mono ?_; rintro e w7 ⟨rfl, hb⟩; have HB7 := hid (HB6.out.trans (hb.mono HB6.out.size)); clear hb)
          | (have _u := HB5; clear _u; go_at_call 13; refine (keepInts _ _ Y Y _ HY5.out HZ5.out).mono ?_; rw [eqL_self]; rintro e w6 ⟨rfl, n6, hw6⟩; have HB6 := hid (show Below w.heap.size w w6 from by rw [hw6]; exact below_drewN' HB5.out n6); clear hw6)
          | (have _u := HB4; clear _u; go_at_call 18; refine (G5.out _ _ HX4.out).mono ?_; rintro e w5 ⟨v5, rfl, ho5, hb5⟩; have HB5 := hid (HB4.out.trans (hb5.mono HB4.out.size)); have HY5 := hid (HY4.out.below hb5); have HZ5 := hid ho5; clear hb5 ho5)
          | (have _u := HB3; clear _u; go_at_call 16; refine (G4.out _ _ HX3.out).mono ?_; rintro e w4 ⟨rfl, hb4⟩; have HB4 := hid (HB3.out.trans (hb4.mono HB3.out.size)); have HX4 := hid (HX3.out.below hb4); have HY4 := hid (HY3.out.below hb4); clear hb4)
          | (have _u := HB2; clear _u; go_at_call 10; refine (G3.out _ _ HS2.out).mono ?_; rintro e w3 ⟨v3, rfl, ho3, hb3⟩; have HB3 := hid (HB2.out.trans (hb3.mono HB2.out.size)); have HX3 := hid (HX2.out.below hb3); have HY3 := hid ho3; clear hb3 ho3)
          | (have _u := HB1; clear _u; go_at_call 21; refine (G2.out _ _ HM1.out).mono ?_; rintro e w2 ⟨v2, rfl, ho2, hb2⟩; have HB2 := hid (HB1.out.trans (hb2.mono HB1.out.size)); have HX2 := hid ho2.sl; have HS2 := hid (HS1.out.below hb2); clear hb2 ho2)
          | (go_at_call 14; refine (G1.out _ _ (HS_s.out.below (by (repeat (first | exact Below.refl _ _ | exact below_drewN _ | refine Below.drew ?_ | refine Below.alloc ?_ (by simp) _ | refine Below.setCell ?_ (by simp) _ | refine below_drewN' ?_ _))))).mono ?_; rintro e w1 ⟨v1, rfl, ho1, hb1⟩; have hb1' := hid (show Below w.heap.size w w1 from ((Below.refl w.heap.size w).alloc (Nat.le_refl _) _).trans (hb1.mono (by simp))); have HM1 := hid ho1; have HB1 := hid hb1'.out; have HS1 := hid (HS_s.out.below hb1'.out); clear hb1 hb1' ho1))
        go_ret
        exact ⟨rfl, HB7.out⟩
  · have hf_n : 150 < n := by omega
    clear hl_n HM HN HP HA HS
    go_enter Tryz.func4, Tryz.ntmps4
    go_wp2
    go_ret
    exact ⟨rfl, Below.refl _ _⟩
end Go.Proofs.YtidjjaginindoaaGreat
