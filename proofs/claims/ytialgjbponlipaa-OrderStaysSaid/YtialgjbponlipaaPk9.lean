/- Several texts in one: LawKeeps9, LawStays9, RefSc, Ref6a, Ucd5, Ucd6, RngMath, RngPack. -/
import Derived.Test.YtialgjbponlipaaPk2
import Derived.Test.YtialgjbponlipaaPk8
import Derived.Deep.RegionLaw
import Derived.Deep.CutRange
/-! LawKeeps9 -/
namespace Go.Proofs.Ytialgjbponlipaa
open Go.RowKit

set_option maxHeartbeats 8000000 in
theorem walkKeeps9 (HI : OIsOk) (HP : OPutOk) (v : Value) (s : List Int) (w : World) (h : Sl .i64 w v s) :
    Calls Try.prog 5 #[v] w fun e w' => e = .returned (.bool true) ∧ Below w.heap.size w w' := by
  have HS := hid h
  have ml := h.len
  obtain ⟨a, c, hv, q1, -, hb⟩ := h
  obtain ⟨n, hn⟩ : ∃ n, n = s.length := ⟨_, rfl⟩
  rw [← hn] at hv ml q1 hb
  subst hv
  have HN := hid hn
  have HBB := hid hb
  have HW := hid (fun w => lawWakes9 HI HP w)
  clear hb
  by_cases hl : n ≤ 200
  · have H1 := hid (fun w h => HP (.slice a n c) s w h (by have := HN.out; omega))
    have hXl : (putG classS s).length = n := by rw [put_len]; exact hn.symm
    have HZ := hid (fun (i : Nat) (hi : i < n) (hz : classS (s.getD i 0) = 0) => keeps_zero class_pos s (by omega) hz)
    have HRUN := hid (fun (f i : Nat) (hf : f ≤ i) (hi : i ≤ n) (h0 : f = 0 ∨ classS (s.getD (f - 1) 0) = 0) (h1 : i = n ∨ classS (s.getD i 0) = 0) (k : Int) => (show ofS k (((putG classS s).drop f).take (i - f)) = ofS k ((s.drop f).take (i - f)) from by
      rw [keeps_run class_pos s hf (by omega) h0 (by omega)]
      exact put_class k _))
    generalize putG classS s = X at H1 hXl HZ HRUN
    have HXL := hid hXl
    clear HI HP hXl hn
    go_enter Try.func5, Try.ntmps5
    go_wp2_with (go_at_call 12; go_loud (refine (H1.out _ HS.out).mono ?_; rintro e w1 ⟨v1, rfl, ho1, hb1⟩; have HO1 := hid ho1.sl; have HB1 := hid hb1; obtain ⟨av, cv, hv1, p1, -, hx1⟩ := ho1.sl; rw [HXL.out] at hv1 p1 hx1; subst hv1; have HXX := hid hx1; clear ho1 hb1 hx1))
    go_loopw [4, 5] (fun fv iv wr => ∃ f i : Nat, f ≤ i ∧ i ≤ n + 1 ∧ fv = .int .i64 f ∧ iv = .int .i64 i ∧ Hid (f = 0 ∨ f = n + 1 ∨ classS (s.getD (f - 1) 0) = 0) ∧ Hid (Below w1.heap.size w1 wr)) (fun _ iv _ => n + 1 - (intOf iv).toNat)
    case atStart => exact ⟨0, 0, by omega, by omega, rfl, rfl, .inl rfl, Below.refl _ _⟩
    case round =>
      obtain ⟨f, i, hfi, hi, rfl, rfl, hf0, hbel⟩ := hrel
      rcases Nat.lt_or_ge i n with hlt | hge
      · have hle : i ≤ n := by omega
        have hfn : f ≠ n + 1 := by omega
        rcases HBB.out with hc | ⟨b1, o1, rfl, hb1, hc⟩
        · omega
        rcases HXX.out with hc2 | ⟨b2, o2, rfl, hb2, hc2⟩
        · omega
        have hb1' := hb1 (by omega)
        have hb2' := hb2 (by omega)
        have d0 := (hbel.out.cell (p := ⟨b1, o1 + i, none⟩) (by have := HB1.out.size; simp; omega)).trans ((HB1.out.cell (p := ⟨b1, o1 + i, none⟩) hb1').trans (hc i hlt))
        have x0 := (hbel.out.cell (p := ⟨b2, o2 + i, none⟩) hb2').trans (hc2 i hlt)
        have HC1 := hid (fun k hk => (HB1.out.cell (p := ⟨b1, o1 + k, none⟩) hb1').trans (hc k hk))
        have HZI := hid (HZ.out i hlt)
        have HRI := hid (fun h1 => HRUN.out f i hfi hle (hf0.out.elim .inl (fun h => h.elim (fun h => absurd h hfn) .inr)) (.inr h1))
        have HF1 := hid (show classS (s.getD i 0) = 0 → (i + 1 = 0 ∨ i + 1 = n + 1 ∨ classS (s.getD (i + 1 - 1) 0) = 0) from fun h => .inr (.inr (by rw [show i + 1 - 1 = i by omega]; exact h)))
        have hbs1 := hb1
        have hbs2 := hb2
        clear hc hc2 hb1 hb2 HZ HRUN
        generalize s.getD i 0 = z at d0 HZI HRI HF1
        generalize X.getD i 0 = xz at x0 HZI
        have HCL := hid (fun w => ucdClass z w)
        generalize hcz : classS z = cz at HCL HZI HRI HF1
        by_cases hz : cz = 0
        · have hxz := HZI.out hz
          subst hxz
          have hR := hid (HRI.out hz)
          have hF2 := hid (HF1.out hz)
          have hzz : (cz != 0) = false := by rw [hz]; rfl
          have hz2 : (xz != xz) = false := by simp
          have hdi : decide (i < n) = true := by rw [decide_eq_true_iff]; exact hlt
          clear HZI HRI HF1 hcz
          go_wp2_with (go_at_call 15; refine (HCL.out _).mono ?_; rintro e w2 ⟨rfl, hb2⟩; have HB2 := hid (hbel.out.trans (hb2.mono hbel.out.size)); have d2 := (hb2.cell (p := ⟨b1, o1 + i, none⟩) (by have := HB1.out.size; have := hbel.out.size; simp; omega)).trans d0; have x2 := (hb2.cell (p := ⟨b2, o2 + i, none⟩) (by have := hbel.out.size; simp; omega)).trans x0; clear hb2)
          go_quiet (fail)
          go_wp2_with (fail)
          go_loopw [6] (fun kv wr2 => ∃ k : Nat, f ≤ k ∧ k ≤ i ∧ kv = .int .i64 k ∧ Hid (Below w1.heap.size w1 wr2)) (fun kv _ => i - (intOf kv).toNat)
          case atStart => exact ⟨f, Nat.le_refl _, hfi, rfl, below_drewN' HB2.out _⟩
          case round =>
            obtain ⟨k, hfk, hki, rfl, hbk⟩ := hrel
            by_cases hkl : k < i
            · rcases HBB.out with hc | ⟨b3, o3, e3, hb3, hc3⟩
              · omega
              cases e3
              have hkn : k < n := by omega
              have d3 := (hbk.out.cell (p := ⟨b1, o1 + k, none⟩) (by have := HB1.out.size; have := hb3 (by omega); simp; omega)).trans ((HB1.out.cell (p := ⟨b1, o1 + k, none⟩) (hb3 (by omega))).trans (hc3 k hkn))
              clear hc3 hb3
              generalize s.getD k 0 = y at d3
              have HCY := hid (fun w => ucdClass y w)
              generalize classS y = cy at HCY
              go_upto_region 17 with (go_at_call 15; refine (HCY.out _).mono ?_; rintro e w3 ⟨rfl, hb3⟩; have HB3 := hid (hbk.out.trans (hb3.mono hbk.out.size)); clear hb3)
              have HBW := hid (HB1.out.trans (HB3.out.drew.mono HB1.out.size))
              have hSA : Sl .i64 w3.drew (.slice (some ⟨b1, o1, none⟩) n c) s := HS.out.below HBW.out
              have hXA : Sl .i64 w3.drew (.slice (some ⟨b2, o2, none⟩) n cv) X := HO1.out.below HB3.out.drew
              obtain ⟨vA, hA1, hA2, hA3⟩ := cut_all (P := Try.prog) w3.drew 22 3 Try.underlying22 Try.infoI64 .i64 _ s hSA (some (.int .i64 (f : Int))) (some (.int .i64 (i : Int))) f i (.inr ⟨.i64, rfl⟩) (.inr ⟨.i64, rfl⟩) hfi (by have := HN.out; omega)
              obtain ⟨vB, hB1, hB2, hB3⟩ := cut_all (P := Try.prog) w3.drew 22 3 Try.underlying22 Try.infoI64 .i64 _ X hXA (some (.int .i64 (f : Int))) (some (.int .i64 (i : Int))) f i (.inr ⟨.i64, rfl⟩) (.inr ⟨.i64, rfl⟩) hfi (by have := HXL.out; omega)
              have HVA := hid (hA3 _ hSA)
              have HVB := hid (hB3 _ hXA)
              clear hA3 hB3 hSA hXA
              have HEQ := hid (hR.out cy)
              have HLA := hid (show ((s.drop f).take (i - f)).length ≤ 1000000 by rw [List.length_take]; omega)
              have HLB := hid (show ((X.drop f).take (i - f)).length ≤ 1000000 by rw [List.length_take]; omega)
              go_region_law (first
                | (go_simp; go_at_call 11; refine (keepInts v4 v5 _ _ _ HO45.out.sl HO5.out.sl).mono ?_; rw [HEQ.out, eqL_self]; rintro e w6 ⟨rfl, n6, hw6⟩; have HB6 := hid (show Below w1.heap.size w1 w6 from by rw [hw6]; exact below_drewN' HB5.out n6); clear hw6)
                | (go_simp; go_at_call 16; with_reducible refine (lawOf9 vA _ cy _ HVA.out HLA.out).mono ?_; rintro e w4 ⟨v4, rfl, ho4, hb4⟩; have HO4 := hid ho4; have HC4 := hid hb4; have HB4 := hid (HB3.out.drew.trans (hb4.mono HB3.out.drew.size)); clear ho4 hb4)
                | (go_simp; go_at_call 16; with_reducible refine (lawOf9 vB _ cy _ (HVB.out.below HC4.out) HLB.out).mono ?_; rintro e w5 ⟨v5, rfl, ho5, hb5⟩; have HO5 := hid ho5; have HO45 := hid (HO4.out.below hb5); have HB5 := hid (HB4.out.trans (hb5.mono HB4.out.size)); clear ho5 hb5))
              go_simp
              go_wp2_with (fail)
              go_roundw
              case rel => exact ⟨k + 1, by omega, by omega, by go_num, HB6.out⟩
              case measure => simp [intOf]; omega
            · obtain rfl : k = i := by omega
              go_wp2_with (fail)
              go_roundw
              case rel => exact ⟨k + 1, k + 1, by omega, by omega, by go_num, by go_num, hF2.out, hbk.out⟩
              case measure => (simp [intOf]; try omega)
        · have hzz : (cz != 0) = true := bne_iff_ne.2 hz
          clear HZI HRI HF1 hcz
          go_wp2_with (go_at_call 15; refine (HCL.out _).mono ?_; rintro e w2 ⟨rfl, hb2⟩; have HB2 := hid (hbel.out.trans (hb2.mono hbel.out.size)); clear hb2)
          go_roundw
          case rel => exact ⟨f, i + 1, by omega, by omega, rfl, by go_num, hf0.out, HB2.out⟩
          case measure => simp [intOf]; omega
      · by_cases hin : i = n
        · subst hin
          have hfn : f ≠ i + 1 := by omega
          have hR := hid (HRUN.out f i hfi (Nat.le_refl _) (hf0.out.elim .inl (fun h => h.elim (fun h => absurd h hfn) .inr)) (.inl rfl))
          have hdi : decide (i < i) = false := by simp
          have HB2 := hid hbel.out
          clear HZ HRUN
          go_wp2_with (fail)
          go_quiet (fail)
          go_wp2_with (fail)
          go_loopw [6] (fun kv wr2 => ∃ k : Nat, f ≤ k ∧ k ≤ i ∧ kv = .int .i64 k ∧ Hid (Below w1.heap.size w1 wr2)) (fun kv _ => i - (intOf kv).toNat)
          case atStart => exact ⟨f, Nat.le_refl _, hfi, rfl, below_drewN' HB2.out _⟩
          case round =>
            obtain ⟨k, hfk, hki, rfl, hbk⟩ := hrel
            by_cases hkl : k < i
            · rcases HBB.out with hc | ⟨b3, o3, e3, hb3, hc3⟩
              · omega
              cases e3
              have hkn : k < i := by omega
              have d3 := (hbk.out.cell (p := ⟨b3, o3 + k, none⟩) (by have := HB1.out.size; have := hb3 (by omega); simp; omega)).trans ((HB1.out.cell (p := ⟨b3, o3 + k, none⟩) (hb3 (by omega))).trans (hc3 k hkn))
              clear hc3 hb3
              generalize s.getD k 0 = y at d3
              have HCY := hid (fun w => ucdClass y w)
              generalize classS y = cy at HCY
              go_upto_region 17 with (go_at_call 15; refine (HCY.out _).mono ?_; rintro e w3 ⟨rfl, hb3⟩; have HB3 := hid (hbk.out.trans (hb3.mono hbk.out.size)); clear hb3)
              have HBW := hid (HB1.out.trans (HB3.out.drew.mono HB1.out.size))
              have hSA : Sl .i64 w3.drew (.slice (some ⟨b3, o3, none⟩) i c) s := HS.out.below HBW.out
              have hXA : Sl .i64 w3.drew (.slice av i cv) X := HO1.out.below HB3.out.drew
              obtain ⟨vA, hA1, hA2, hA3⟩ := cut_all (P := Try.prog) w3.drew 22 3 Try.underlying22 Try.infoI64 .i64 _ s hSA (some (.int .i64 (f : Int))) (some (.int .i64 (i : Int))) f i (.inr ⟨.i64, rfl⟩) (.inr ⟨.i64, rfl⟩) hfi (by have := HN.out; omega)
              obtain ⟨vB, hB1, hB2, hB3⟩ := cut_all (P := Try.prog) w3.drew 22 3 Try.underlying22 Try.infoI64 .i64 _ X hXA (some (.int .i64 (f : Int))) (some (.int .i64 (i : Int))) f i (.inr ⟨.i64, rfl⟩) (.inr ⟨.i64, rfl⟩) hfi (by have := HXL.out; omega)
              have HVA := hid (hA3 _ hSA)
              have HVB := hid (hB3 _ hXA)
              clear hA3 hB3 hSA hXA
              have HEQ := hid (hR.out cy)
              have HLA := hid (show ((s.drop f).take (i - f)).length ≤ 1000000 by rw [List.length_take]; omega)
              have HLB := hid (show ((X.drop f).take (i - f)).length ≤ 1000000 by rw [List.length_take]; omega)
              go_region_law (first
                | (go_simp; go_at_call 11; refine (keepInts v4 v5 _ _ _ HO45.out.sl HO5.out.sl).mono ?_; rw [HEQ.out, eqL_self]; rintro e w6 ⟨rfl, n6, hw6⟩; have HB6 := hid (show Below w1.heap.size w1 w6 from by rw [hw6]; exact below_drewN' HB5.out n6); clear hw6)
                | (go_simp; go_at_call 16; with_reducible refine (lawOf9 vA _ cy _ HVA.out HLA.out).mono ?_; rintro e w4 ⟨v4, rfl, ho4, hb4⟩; have HO4 := hid ho4; have HC4 := hid hb4; have HB4 := hid (HB3.out.drew.trans (hb4.mono HB3.out.drew.size)); clear ho4 hb4)
                | (go_simp; go_at_call 16; with_reducible refine (lawOf9 vB _ cy _ (HVB.out.below HC4.out) HLB.out).mono ?_; rintro e w5 ⟨v5, rfl, ho5, hb5⟩; have HO5 := hid ho5; have HO45 := hid (HO4.out.below hb5); have HB5 := hid (HB4.out.trans (hb5.mono HB4.out.size)); clear ho5 hb5))
              go_simp
              go_wp2_with (fail)
              go_roundw
              case rel => exact ⟨k + 1, by omega, by omega, by go_num, HB6.out⟩
              case measure => simp [intOf]; omega
            · obtain rfl : k = i := by omega
              go_wp2_with (fail)
              go_roundw
              case rel => exact ⟨k + 1, k + 1, by omega, by omega, by go_num, by go_num, .inr (.inl rfl), hbk.out⟩
              case measure => (simp [intOf]; try omega)
        · obtain rfl : i = n + 1 := by omega
          go_wp2_with (go_at_call 14; refine (HW.out _).mono ?_; rintro e w9 ⟨rfl, hb9⟩; have HB9 := hid (HB1.out.trans ((hbel.out.trans (hb9.mono hbel.out.size)).mono HB1.out.size)); clear hb9)
          go_ret
          exact ⟨rfl, HB9.out⟩
  · have hl2 : 200 < n := by omega
    clear HI HP hl
    go_enter Try.func5, Try.ntmps5
    go_wp2
    go_ret
    exact ⟨rfl, Below.refl _ _⟩
end Go.Proofs.Ytialgjbponlipaa

/-! LawStays9 -/
namespace Go.Proofs.Ytialgjbponlipaa
open Go.RowKit

theorem eqL_dec (x y : List Int) : eqL x y = decide (x = y) := by
  rw [Bool.eq_iff_iff, decide_eq_true_iff]
  exact eqL_iff
set_option maxHeartbeats 4000000 in
theorem walkStays9 (HI : OIsOk) (HP : OPutOk) (v : Value) (s : List Int) (w : World) (h : Sl .i64 w v s) :
    Calls Try.prog 4 #[v] w fun e w' => e = .returned (.bool true) ∧ Below w.heap.size w w' := by
  have HS := hid h
  have ml := h.len
  obtain ⟨a, c, hv⟩ := h.form
  obtain ⟨n, hn⟩ : ∃ n, n = s.length := ⟨_, rfl⟩
  rw [← hn] at hv ml
  subst hv
  have HN := hid hn
  have HW := hid (fun w => lawWakes9 HI HP w)
  clear hn h
  by_cases hl : n ≤ 200
  · have hX : (putG classS s).length ≤ 1000000 := by rw [put_len]; have := HN.out; omega
    have H1 := hid (fun w h => HP (.slice a n c) s w h (by have := HN.out; omega))
    have H2 := hid (fun v w h => HI v (putG classS s) w h hX)
    have H3 := hid (fun v w h => HP v (putG classS s) w h hX)
    have H4 := hid (fun w h => HI (.slice a n c) s w h (by have := HN.out; omega))
    rw [put_ord class_pos] at H2
    rw [put_twice class_pos] at H3
    rw [put_iff class_pos] at H4
    generalize putG classS s = X at H1 H2 H3 H4 hX
    have HE := hid (eqL_dec X s)
    generalize decide (X = s) = D at H4 HE
    clear HI HP hX
    go_enter Try.func4, Try.ntmps4
    go_wp2_with (first
      | (have _u := HB6; clear _u; go_at_call 14; refine (HW.out _).mono ?_; rintro e w7 ⟨rfl, hb7⟩; have HB7 := hid (HB6.out.trans (hb7.mono HB6.out.size)); clear hb7)
      | (have _u := HB5; clear _u; go_at_call 11; refine (keepInts v1 (.slice a n c) X s _ HO15.out.sl (HS.out.below HB5.out)).mono ?_; rw [HE.out]; rintro e w6 ⟨rfl, n6, hw6⟩; have HB6 := hid (show Below w.heap.size w w6 from by rw [hw6]; exact below_drewN' HB5.out n6); clear hw6)
      | (have _u := HB4; clear _u; go_at_call 9; with_reducible refine (H4.out _ (HS.out.below HB4.out)).mono ?_; rintro e w5 ⟨rfl, hb5⟩; have HO15 := hid (HO14.out.below hb5); have HB5 := hid (HB4.out.trans (hb5.mono HB4.out.size)); clear hb5)
      | (have _u := HB3; clear _u; go_at_call 11; refine (keepInts v3 v1 X X _ HO3.out.sl HO13.out.sl).mono ?_; rw [eqL_self]; rintro e w4 ⟨rfl, n4, hw4⟩; have HO14 := hid (show Own .i64 3 w.heap.size w4 v1 X from by rw [hw4]; exact HO13.out.drewN _); have HB4 := hid (show Below w.heap.size w w4 from by rw [hw4]; exact below_drewN' HB3.out n4); clear hw4)
      | (have _u := HB2; clear _u; go_at_call 12; with_reducible refine (H3.out v1 _ HO12.out.sl).mono ?_; rintro e w3 ⟨v3, rfl, ho3, hb3⟩; have HO3 := hid ho3; have HO13 := hid (HO12.out.below hb3); have HB3 := hid (HB2.out.trans (hb3.mono HB2.out.size)); clear ho3 hb3)
      | (have _u := HB1; clear _u; go_at_call 9; with_reducible refine (H2.out v1 _ HO1.out.sl).mono ?_; rintro e w2 ⟨rfl, hb2⟩; have HO12 := hid (HO1.out.below hb2); have HB2 := hid (HB1.out.trans (hb2.mono HB1.out.size)); clear hb2)
      | (go_at_call 12; with_reducible refine (H1.out _ HS.out).mono ?_; rintro e w1 ⟨v1, rfl, ho1, hb1⟩; have HO1 := hid ho1; have HB1 := hid hb1; clear ho1 hb1))
    go_ret
    exact ⟨by simp, HB7.out⟩
  · have hl2 : 200 < n := by omega
    clear HI HP hl
    go_enter Try.func4, Try.ntmps4
    go_wp2
    go_ret
    exact ⟨rfl, Below.refl _ _⟩
end Go.Proofs.Ytialgjbponlipaa

/-! RefSc -/
namespace Go.Proofs.Ytialgjbponlipaa
open Go.RowKit

end Go.Proofs.Ytialgjbponlipaa

/-! Ref6a -/
namespace Go.Proofs.Ytialgjbponlipaa
open Go.RowKit

/-- no table gives a number that is no scalar a value, or any number one below 0 -/
def offT (l : List Rg) : Bool := l.all fun r => decide (0 ≤ r.f ∧ r.t ≤ 1114111 ∧ (r.t < 55296 ∨ 57343 < r.f) ∧ 0 < r.v)
theorem off_all : offT tabClasses = true ∧ offT tabAssigned = true ∧ offT tabNothing = true ∧ offT tabSpaces = true ∧ offT tabProhibited = true := by decide +kernel
theorem off_look {l : List Rg} (h : offT l = true) (c : Int) : lookS l c = 0 ∨ (scalarB c = true ∧ 0 < lookS l c) := by
  by_cases h0 : lookS l c = 0
  · exact .inl h0
  · obtain ⟨r, hr, h1, h2, h3⟩ := lookS_some h0
    have := List.all_eq_true.1 h r hr
    simp only [decide_eq_true_eq] at this
    exact .inr ⟨scalar_t ⟨by omega, by omega, by omega⟩, by rw [h3]; exact this.2.2.2⟩
theorem class_look (c : Int) : lookS tabClasses c = classS c := by
  rcases off_look off_all.1 c with h | h
  · unfold classS
    rw [h]
    split <;> rfl
  · exact classS_t h.1
theorem has_look {l : List Rg} (h : offT l = true) (c : Int) : (scalarB c && decide (0 < lookS l c)) = hasS l c := by
  unfold hasS
  rcases off_look h c with h | h
  · rw [h]; rfl
  · rw [h.1, decide_eq_true h.2]
    have : (lookS l c != 0) = true := by simp only [bne_iff_ne]; omega
    rw [this]

end Go.Proofs.Ytialgjbponlipaa

/-! Ucd5 -/
namespace Go.Proofs.Ytialgjbponlipaa
open Go.RowKit

/-- the first place of a number, or -1 -/
def idxL (c : Int) : List Int → Int → Int
  | [], _ => -1
  | x :: l, k => if x == c then k else idxL c l (k + 1)
def inL (c : Int) (l : List Int) : Bool := decide (0 ≤ idxL c l 0)
theorem idxL_drop {c : Int} : ∀ {l : List Int} {k : Nat} {o : Int}, k ≤ l.length → (∀ i, i < k → (l.getD i 0 == c) = false) → idxL c l o = idxL c (l.drop k) (o + (k : Int))
  | _, 0, o, _, _ => by simp
  | [], k + 1, _, h, _ => by simp at h
  | r :: l, k + 1, o, h, ha => by
    have h0 := ha 0 (by omega)
    simp only [List.getD_cons_zero] at h0
    rw [idxL, h0, List.drop_succ_cons, show o + ((k + 1 : Nat) : Int) = o + 1 + (k : Int) by omega]
    exact idxL_drop (by simpa using h) fun i hi => by simpa using ha (i + 1) (by omega)
theorem idxL_hit {c : Int} {l : List Int} {k : Nat} (h : k < l.length) (ha : ∀ i, i < k → (l.getD i 0 == c) = false) (hk : (l.getD k 0 == c) = true) : idxL c l 0 = (k : Int) := by
  rw [idxL_drop (by omega) ha, List.drop_eq_getElem_cons h, idxL]
  have e : l.getD k 0 = l[k] := by rw [List.getD_eq_getElem?_getD, List.getElem?_eq_getElem h]; rfl
  rw [e] at hk
  rw [hk]
  simp
theorem idxL_none {c : Int} {l : List Int} (ha : ∀ i, i < l.length → (l.getD i 0 == c) = false) : idxL c l 0 = -1 := by
  rw [idxL_drop (Nat.le_refl _) ha, List.drop_length]
  rfl

end Go.Proofs.Ytialgjbponlipaa

/-! Ucd6 -/
namespace Go.Proofs.Ytialgjbponlipaa
open Go.RowKit

def delS (excl : List Int) (cls : List Rg) (r : Rg) : Bool := r.v == 0 || inL r.f excl || lookS cls r.f != 0 || lookS cls r.t != 0
end Go.Proofs.Ytialgjbponlipaa

/-! RngMath -/
namespace Go.Proofs.Ytialgjbponlipaa

theorem packN_at (g : Nat → Int) : ∀ {n k : Nat}, k < n → (packN g n).1.getD k 0 = (packN g k).2.idxOf (blk g k)
  | n + 1, k, h => by
    have hl := (packN_ok g n).len
    rw [packN]
    rcases Nat.lt_or_ge k n with h1 | h1
    · rw [List.getD_eq_getElem?_getD, List.getElem?_append_left (by omega), ← List.getD_eq_getElem?_getD]
      exact packN_at g h1
    · obtain rfl : k = n := by omega
      rw [List.getD_eq_getElem?_getD, List.getElem?_append_right (by omega), hl, Nat.sub_self]
      rfl
/-- the number of blocks met among the first k groups -/
def seenN (g : Nat → Int) (k : Nat) : Nat := (packN g k).2.length
theorem seenN_next (g : Nat → Int) {n k : Nat} (h : k < n) : (packN g n).1.getD k 0 ≤ seenN g k ∧ seenN g (k + 1) = if (packN g n).1.getD k 0 = seenN g k then seenN g k + 1 else seenN g k := by
  rw [packN_at g h]
  unfold seenN
  rw [packN]
  by_cases hm : blk g k ∈ (packN g k).2
  · have hlt := List.idxOf_lt_length_iff.2 hm
    simp only [if_pos hm]
    rw [if_neg (by omega)]
    exact ⟨by omega, rfl⟩
  · have he := List.idxOf_eq_length hm
    simp only [if_neg hm]
    rw [if_pos he]
    exact ⟨by omega, by simp⟩

/-! ### no more than three blocks a range, and one -/
theorem sub_len {α : Type} [DecidableEq α] : ∀ {a b : List α}, a.Nodup → (∀ x ∈ a, x ∈ b) → a.length ≤ b.length
  | [], _, _, _ => Nat.zero_le _
  | x :: a, b, hn, hs => by
    rw [List.nodup_cons] at hn
    have hx := hs x (List.mem_cons_self ..)
    have ih := sub_len (a := a) (b := b.erase x) hn.2 (fun y hy => (List.mem_erase_of_ne (by rintro rfl; exact hn.1 hy)).2 (hs y (List.mem_cons_of_mem _ hy)))
    rw [List.length_erase_of_mem hx] at ih
    have := List.length_pos_of_mem hx
    simp only [List.length_cons]
    omega
def con (v : Int) : List Int := List.replicate 256 v
theorem con_eq {b : List Int} {v : Int} (hl : b.length = 256) (h : ∀ i, i < 256 → b.getD i 0 = v) : b = con v := by
  apply List.ext_getElem
  · rw [hl]; exact List.length_replicate.symm
  · intro i h1 h2
    have := h i (by omega)
    rw [List.getD_eq_getElem?_getD, List.getElem?_eq_getElem h1] at this
    exact this.trans (List.getElem_replicate (h := by rw [List.length_replicate]; omega)).symm
def tabG (l : List Rg) : Nat → Int := fun c => lookS l (c : Int)
theorem blk_kind {l : List Rg} (h : okL (-1) l) (k : Nat) : blk (tabG l) k ∈ con 0 :: (l.map (fun r => con r.v) ++ (l.map (fun r => blk (tabG l) (r.f / 256).toNat) ++ l.map (fun r => blk (tabG l) (r.t / 256).toNat))) := by
  by_cases hz : ∀ i, i < 256 → tabG l (256 * k + i) = 0
  · refine List.mem_cons.2 (.inl ?_)
    exact con_eq (blk_len _ _) fun i hi => by rw [blk_at _ _ _ hi]; exact hz i hi
  · obtain ⟨i, hi⟩ := Classical.not_forall.1 hz
    obtain ⟨hi1, hi2⟩ := Classical.not_imp.1 hi
    obtain ⟨r, hr, h1, h2, h3⟩ := lookS_some hi2
    have hok := okL_mem h hr
    unfold maxS at hok
    refine List.mem_cons.2 (.inr ?_)
    by_cases hf : (256 * k : Int) ≤ r.f ∧ ¬ r.f = 256 * k
    · refine List.mem_append.2 (.inr (List.mem_append.2 (.inl (List.mem_map.2 ⟨r, hr, ?_⟩))))
      rw [show (r.f / 256).toNat = k by omega]
    · by_cases ht : r.t < (256 * k + 255 : Int)
      · refine List.mem_append.2 (.inr (List.mem_append.2 (.inr (List.mem_map.2 ⟨r, hr, ?_⟩))))
        rw [show (r.t / 256).toNat = k by omega]
      · refine List.mem_append.2 (.inl (List.mem_map.2 ⟨r, hr, ?_⟩))
        refine (con_eq (blk_len _ _) fun j hj => ?_).symm
        rw [blk_at _ _ _ hj]
        exact lookS_mem h hr (by omega) (by omega)
theorem pack_small {l : List Rg} (h : okL (-1) l) (n : Nat) : (packN (tabG l) n).2.length ≤ 3 * l.length + 1 := by
  have hk := packN_ok (tabG l) n
  have := sub_len hk.nodup (b := con 0 :: (l.map (fun r => con r.v) ++ (l.map (fun r => blk (tabG l) (r.f / 256).toNat) ++ l.map (fun r => blk (tabG l) (r.t / 256).toNat)))) (fun b hb => by
    obtain ⟨k, _, rfl⟩ := hk.from_ b hb
    exact blk_kind h k)
  rw [List.length_cons, List.length_append, List.length_append, List.length_map, List.length_map, List.length_map] at this
  omega

/-! ### the fewest ranges -/
/-- one number more -/
def rleStep (l : List Rg) (c : Nat) (v : Int) : List Rg :=
  if v = 0 then l else
    match l.getLast? with
    | some r => if r.t = (c : Int) - 1 ∧ r.v = v then l.dropLast ++ [⟨r.f, c, v⟩] else l ++ [⟨c, c, v⟩]
    | none => [⟨c, c, v⟩]
def rle (g : Nat → Int) : Nat → List Rg
  | 0 => []
  | n + 1 => rleStep (rle g n) n (g n)
/-- what is known of the ranges of the first n numbers -/
structure RleOk (g : Nat → Int) (n : Nat) (l : List Rg) : Prop where
  mem : ∀ r ∈ l, 0 ≤ r.f ∧ r.f ≤ r.t ∧ r.t < n ∧ r.v ≠ 0 ∧ (∀ c : Nat, r.f ≤ c → c ≤ r.t → g c = r.v) ∧ (r.f = 0 ∨ g (r.f - 1).toNat ≠ r.v)
  cov : ∀ c : Nat, c < n → g c ≠ 0 → ∃ r ∈ l, r.f ≤ (c : Int) ∧ (c : Int) ≤ r.t
  ord : l.Pairwise fun a b => a.t < b.f
  max : ∀ r ∈ l, r.t + 1 < n → g (r.t + 1).toNat ≠ r.v
theorem last_split {l : List Rg} {r : Rg} (h : l.getLast? = some r) : l = l.dropLast ++ [r] := by
  have hne : l ≠ [] := by rintro rfl; simp at h
  rw [List.getLast?_eq_some_getLast hne] at h
  injection h with h
  rw [← h, List.dropLast_concat_getLast]
theorem rle_ok (g : Nat → Int) : ∀ n, RleOk g n (rle g n)
  | 0 => ⟨fun _ h => (nomatch h), fun _ h => absurd h (by omega), List.Pairwise.nil, fun _ h => (nomatch h)⟩
  | n + 1 => by
    have ih := rle_ok g n
    rw [rle]
    generalize rle g n = l at ih
    unfold rleStep
    by_cases hv : g n = 0
    · rw [if_pos hv]
      refine ⟨fun r hr => ?_, fun c hc hg => ?_, ih.ord, fun r hr h1 => ?_⟩
      · obtain ⟨h1, h2, h3, h4, h5, h6⟩ := ih.mem r hr
        exact ⟨h1, h2, by omega, h4, h5, h6⟩
      · rcases Nat.lt_or_ge c n with h1 | h1
        · exact ih.cov c h1 hg
        · obtain rfl : c = n := by omega
          exact absurd hv hg
      · obtain ⟨k1, k2, k3, k4, k5, k6⟩ := ih.mem r hr
        by_cases h2 : r.t + 1 < n
        · exact ih.max r hr h2
        · have : (r.t + 1).toNat = n := by omega
          rw [this, hv]
          exact fun e => k4 e.symm
    · rw [if_neg hv]
      cases hlast : l.getLast? with
      | none =>
        have hl : l = [] := List.getLast?_eq_none_iff.1 hlast
        subst hl
        refine ⟨fun r hr => ?_, fun c hc hg => ?_, List.pairwise_singleton _ _, fun r hr h1 => ?_⟩
        · simp only [List.mem_singleton] at hr
          subst hr
          refine ⟨by simp, by simp, by simp; omega, hv, fun c h1 h2 => ?_, ?_⟩
          · simp only at h1 h2
            rw [show c = n by omega]
          · rcases Nat.eq_zero_or_pos n with h0 | h0
            · left; simp [h0]
            · right
              simp only
              intro he
              have h1 : g (n - 1) ≠ 0 := by rw [show ((n : Int) - 1).toNat = n - 1 by omega] at he; rw [he]; exact hv
              obtain ⟨r, hr, _⟩ := ih.cov (n - 1) (by omega) h1
              cases hr
        · rcases Nat.lt_or_ge c n with h1 | h1
          · obtain ⟨r, hr, _⟩ := ih.cov c h1 hg
            cases hr
          · exact ⟨_, List.mem_singleton.2 rfl, by simp; omega, by simp; omega⟩
        · simp only [List.mem_singleton] at hr
          subst hr
          simp at h1
      | some r =>
        have hsplit := last_split hlast
        generalize l.dropLast = d at hsplit
        subst hsplit
        clear hlast
        obtain ⟨k1, k2, k3, k4, k5, k6⟩ := ih.mem r (by simp)
        have hord := ih.ord
        rw [List.pairwise_append] at hord
        obtain ⟨o1, _, o3⟩ := hord
        simp only
        by_cases hx : r.t = (n : Int) - 1 ∧ r.v = g n
        · rw [if_pos hx]
          obtain ⟨x1, x2⟩ := hx
          refine ⟨fun s hs => ?_, fun c hc hg => ?_, ?_, fun s hs h1 => ?_⟩
          · rcases List.mem_append.1 hs with hs | hs
            · obtain ⟨h1, h2, h3, h4, h5, h6⟩ := ih.mem s (List.mem_append_left _ hs)
              exact ⟨h1, h2, by omega, h4, h5, h6⟩
            · simp only [List.mem_singleton] at hs
              subst hs
              refine ⟨k1, by simp only; omega, by simp only; omega, hv, fun c h1 h2 => ?_, ?_⟩
              · simp only at h1 h2 ⊢
                rcases Nat.lt_or_ge c n with h3 | h3
                · rw [k5 c h1 (by omega), x2]
                · rw [show c = n by omega]
              · simp only; rw [← x2]; exact k6
          · rcases Nat.lt_or_ge c n with h1 | h1
            · obtain ⟨s, hs, h2, h3⟩ := ih.cov c h1 hg
              rcases List.mem_append.1 hs with hs | hs
              · exact ⟨s, List.mem_append_left _ hs, h2, h3⟩
              · simp only [List.mem_singleton] at hs
                subst hs
                exact ⟨_, List.mem_append_right _ (List.mem_singleton.2 rfl), h2, by simp only; omega⟩
            · exact ⟨_, List.mem_append_right _ (List.mem_singleton.2 rfl), by simp only; omega, by simp only; omega⟩
          · rw [List.pairwise_append]
            exact ⟨o1, List.pairwise_singleton _ _, fun a ha b hb => by
              simp only [List.mem_singleton] at hb
              subst hb
              exact o3 a ha r (by simp)⟩
          · rcases List.mem_append.1 hs with hs | hs
            · have := o3 s hs r (by simp)
              exact ih.max s (List.mem_append_left _ hs) (by omega)
            · simp only [List.mem_singleton] at hs
              subst hs
              simp only at h1
              omega
        · rw [if_neg hx]
          refine ⟨fun s hs => ?_, fun c hc hg => ?_, ?_, fun s hs h1 => ?_⟩
          · rcases List.mem_append.1 hs with hs | hs
            · obtain ⟨h1, h2, h3, h4, h5, h6⟩ := ih.mem s hs
              exact ⟨h1, h2, by omega, h4, h5, h6⟩
            · simp only [List.mem_singleton] at hs
              subst hs
              refine ⟨by simp, by simp, by simp; omega, hv, fun c h1 h2 => ?_, ?_⟩
              · simp only at h1 h2
                rw [show c = n by omega]
              · rcases Nat.eq_zero_or_pos n with h0 | h0
                · left; simp [h0]
                · right
                  simp only
                  rw [show ((n : Int) - 1).toNat = n - 1 by omega]
                  intro he
                  obtain ⟨s, hs, h1, h2⟩ := ih.cov (n - 1) (by omega) (by rw [he]; exact hv)
                  rcases List.mem_append.1 hs with hs | hs
                  · have := o3 s hs r (by simp)
                    omega
                  · simp only [List.mem_singleton] at hs
                    subst hs
                    have := k5 (n - 1) h1 h2
                    exact hx ⟨by omega, by rw [← this, he]⟩
          · rcases Nat.lt_or_ge c n with h1 | h1
            · obtain ⟨s, hs, h2, h3⟩ := ih.cov c h1 hg
              exact ⟨s, List.mem_append_left _ hs, h2, h3⟩
            · exact ⟨_, List.mem_append_right _ (List.mem_singleton.2 rfl), by simp only; omega, by simp only; omega⟩
          · rw [List.pairwise_append]
            exact ⟨ih.ord, List.pairwise_singleton _ _, fun a ha b hb => by
              simp only [List.mem_singleton] at hb
              subst hb
              have := (ih.mem a ha).2.2.1
              simp only
              omega⟩
          · rcases List.mem_append.1 hs with hs | hs
            · by_cases h2 : s.t + 1 < n
              · exact ih.max s hs h2
              · have hst : s.t = (n : Int) - 1 := by have := (ih.mem s hs).2.2.1; omega
                rw [show (s.t + 1).toNat = n by omega]
                rcases List.mem_append.1 hs with hs | hs
                · have := o3 s hs r (by simp)
                  omega
                · simp only [List.mem_singleton] at hs
                  subst hs
                  exact fun e => hx ⟨hst, e.symm⟩
            · simp only [List.mem_singleton] at hs
              subst hs
              simp at h1
/-- it is a right table, where it is not too long -/
theorem rle_flat {g : Nat → Int} {n : Nat} {l : List Rg} (h : RleOk g n l) (hn : (n : Int) ≤ maxS + 1) (hv : ∀ c, c < n → 0 ≤ g c ∧ g c ≤ 65535) : okL (-1) l := by
  have key : ∀ (l : List Rg) (p : Int), (∀ r ∈ l, 0 ≤ r.f ∧ r.f ≤ r.t ∧ r.t < n ∧ 1 ≤ r.v ∧ r.v ≤ 65535 ∧ p < r.f) → l.Pairwise (fun a b => a.t < b.f) → okL p l := by
    intro l
    induction l with
    | nil => intro _ _ _; trivial
    | cons r l ih =>
      intro p h1 h2
      rw [List.pairwise_cons] at h2
      have hr := h1 r (List.mem_cons_self ..)
      refine ⟨?_, ih r.t (fun s hs => ?_) h2.2⟩
      · unfold okR; omega
      · have := h1 s (List.mem_cons_of_mem _ hs)
        have := h2.1 s hs
        omega
  refine key l (-1) (fun r hr => ?_) h.ord
  obtain ⟨h1, h2, h3, h4, h5, _⟩ := h.mem r hr
  have e := h5 r.f.toNat (by omega) (by omega)
  have := hv r.f.toNat (by omega)
  omega
/-- it says the same -/
theorem rle_look {g : Nat → Int} {n : Nat} {l : List Rg} (h : RleOk g n l) (hf : okL (-1) l) {c : Nat} (hc : c < n) : lookS l c = g c := by
  by_cases hz : g c = 0
  · rw [hz]
    by_cases hl : lookS l c = 0
    · exact hl
    · obtain ⟨r, hr, h1, h2, h3⟩ := lookS_some hl
      obtain ⟨_, _, _, h4, h5, _⟩ := h.mem r hr
      exact absurd ((h5 c h1 h2).symm.trans hz) h4
  · obtain ⟨r, hr, h1, h2⟩ := h.cov c hc hz
    obtain ⟨_, _, _, _, h5, _⟩ := h.mem r hr
    rw [lookS_mem hf hr h1 h2, h5 c h1 h2]
/-- no table that says the same has fewer -/
theorem rle_few {g : Nat → Int} {n : Nat} {l m : List Rg} (h : RleOk g n l) (hm : ∀ c : Nat, c < n → lookS m c = g c) (hk : okL (-1) m) : l.length ≤ m.length := by
  have hn : (l.map Rg.f).Nodup := by
    unfold List.Nodup
    rw [List.pairwise_map]
    refine h.ord.imp_of_mem fun {a b} ha hb hab => ?_
    have := (h.mem a ha).2.1
    have := (h.mem b hb).2.1
    omega
  have := sub_len hn (b := m.map Rg.f) (fun x hx => by
    obtain ⟨r, hr, rfl⟩ := List.mem_map.1 hx
    obtain ⟨h1, h2, h3, h4, h5, h6⟩ := h.mem r hr
    have e := h5 r.f.toNat (by omega) (by omega)
    have e2 := hm r.f.toNat (by omega)
    rw [e] at e2
    obtain ⟨s, hs, k1, k2, k3⟩ := lookS_some (l := m) (c := (r.f.toNat : Int)) (by rw [e2]; exact h4)
    have hsv : s.v = r.v := by rw [← k3, e2]
    refine List.mem_map.2 ⟨s, hs, ?_⟩
    rcases h6 with h6 | h6
    · have := (okL_mem hk hs).1
      omega
    · by_cases hlt : s.f < r.f
      · have e3 := hm (r.f - 1).toNat (by omega)
        rw [lookS_mem hk hs (by omega) (by omega), hsv] at e3
        exact absurd e3.symm h6
      · omega)
  simpa using this
end Go.Proofs.Ytialgjbponlipaa

/-! RngPack -/
namespace Go.Proofs.Ytialgjbponlipaa

theorem lookS_left : ∀ {a b : List Rg} {c : Int}, (∀ r ∈ b, ¬ (r.f ≤ c ∧ c ≤ r.t)) → lookS (a ++ b) c = lookS a c
  | [], [], _, _ => rfl
  | [], r :: b, c, h => by
    have h0 := h r (List.mem_cons_self ..)
    have e : lookS (r :: b) c = lookS b c := by rw [lookS, if_neg h0]
    rw [List.nil_append, e]
    exact lookS_left (a := []) (fun s hs => h s (List.mem_cons_of_mem _ hs))
  | x :: a, b, c, h => by
    rw [List.cons_append, lookS, lookS, lookS_left h]
theorem lookS_right : ∀ {a b : List Rg} {c : Int}, (∀ r ∈ a, ¬ (r.f ≤ c ∧ c ≤ r.t)) → lookS (a ++ b) c = lookS b c
  | [], _, _, _ => rfl
  | x :: a, b, c, h => by
    rw [List.cons_append, lookS, if_neg (h x (List.mem_cons_self ..))]
    exact lookS_right fun r hr => h r (List.mem_cons_of_mem _ hr)
theorem okL_low : ∀ {l : List Rg} {p : Int}, okL p l → ∀ r ∈ l, p < r.f
  | [], _, _, _, hm => by cases hm
  | x :: l, p, h, r, hm => by
    have hx := h.1
    unfold okR at hx
    rcases List.mem_cons.1 hm with rfl | hm
    · omega
    · have := okL_low h.2 r hm; omega
theorem okL_pair : ∀ {l : List Rg} {p : Int}, okL p l → l.Pairwise fun a b => a.t < b.f
  | [], _, _ => List.Pairwise.nil
  | _ :: _, _, h => List.pairwise_cons.2 ⟨fun r hr => okL_low h.2 r hr, okL_pair h.2⟩
theorem take_rg {l : List Rg} {i : Nat} (h : i < l.length) : l.take (i + 1) = l.take i ++ [l.getD i noRg] := by
  rw [List.take_add_one, List.getD_eq_getElem?_getD, List.getElem?_eq_getElem h]; rfl
theorem mem_take_rg {l : List Rg} {i : Nat} {r : Rg} (h : r ∈ l.take i) : ∃ j, j < i ∧ j < l.length ∧ l.getD j noRg = r := by
  obtain ⟨j, hj, rfl⟩ := List.getElem_of_mem h
  rw [List.length_take] at hj
  exact ⟨j, by omega, by omega, by rw [List.getD_eq_getElem?_getD, List.getElem?_eq_getElem (by omega)]; simp⟩
theorem mem_drop_rg {l : List Rg} {i : Nat} {r : Rg} (h : r ∈ l.drop i) : ∃ j, i ≤ j ∧ j < l.length ∧ l.getD j noRg = r := by
  obtain ⟨j, hj, rfl⟩ := List.getElem_of_mem h
  rw [List.length_drop] at hj
  exact ⟨i + j, by omega, by omega, by rw [List.getD_eq_getElem?_getD, List.getElem?_eq_getElem (by omega)]; simp⟩
theorem rg_pair {l : List Rg} (h : okL (-1) l) {i j : Nat} (hij : i < j) (hj : j < l.length) : (l.getD i noRg).t < (l.getD j noRg).f := by
  have := List.pairwise_iff_getElem.1 (okL_pair h) i j (by omega) hj hij
  rw [List.getD_eq_getElem?_getD, List.getD_eq_getElem?_getD, List.getElem?_eq_getElem (by omega), List.getElem?_eq_getElem hj]
  exact this
theorem rg_ok {l : List Rg} (h : okL (-1) l) {i : Nat} (hi : i < l.length) : 0 ≤ (l.getD i noRg).f ∧ (l.getD i noRg).f ≤ (l.getD i noRg).t ∧ (l.getD i noRg).t ≤ 1114111 ∧ 1 ≤ (l.getD i noRg).v ∧ (l.getD i noRg).v ≤ 65535 := by
  rw [List.getD_eq_getElem?_getD, List.getElem?_eq_getElem hi]
  exact okL_mem h (List.getElem_mem hi)
theorem pk_start {l : List Rg} {a : Nat} {b c : Int} (h : ∀ j, j < a → (l.getD j noRg).t < b) (hc : b ≤ c) : lookS (l.take a) c = 0 := by
  have := lookS_right (a := l.take a) (b := []) (c := c) fun r hr => by
    obtain ⟨j, hj, _, rfl⟩ := mem_take_rg hr
    have := h j hj
    omega
  rw [List.append_nil] at this
  rw [this]
  rfl
theorem pk_hit {l : List Rg} (h : okL (-1) l) {i : Nat} (hi : i < l.length) {c : Int} (hc : (l.getD i noRg).f ≤ c ∧ c ≤ (l.getD i noRg).t) : lookS (l.take (i + 1)) c = (l.getD i noRg).v := by
  rw [take_rg hi, lookS_right fun r hr => by
    obtain ⟨j, hj, _, rfl⟩ := mem_take_rg hr
    have := rg_pair h hj hi
    omega]
  rw [lookS, if_pos hc]
theorem pk_miss {l : List Rg} {i : Nat} (hi : i < l.length) {c : Int} (hc : ¬ ((l.getD i noRg).f ≤ c ∧ c ≤ (l.getD i noRg).t)) : lookS (l.take (i + 1)) c = lookS (l.take i) c := by
  rw [take_rg hi]
  exact lookS_left fun r hr => by
    simp only [List.mem_singleton] at hr
    subst hr
    exact hc
theorem pk_end {l : List Rg} (h : okL (-1) l) {i : Nat} {b c : Int} (hi : i = l.length ∨ b ≤ (l.getD i noRg).f) (hc : c < b) : lookS (l.take i) c = lookS l c := by
  have e : lookS (l.take i ++ l.drop i) c = lookS (l.take i) c := lookS_left fun r hr => by
    obtain ⟨j, hj, hjl, rfl⟩ := mem_drop_rg hr
    rcases hi with hi | hi
    · omega
    · rcases Nat.lt_or_ge i j with h1 | h1
      · have := rg_pair h h1 hjl
        have := rg_ok h (show i < l.length by omega)
        omega
      · obtain rfl : i = j := by omega
        omega
  rw [List.take_append_drop] at e
  exact e.symm

/-- a row of numbers as cells -/
def iv (ys : List Int) : List Value := ys.map (Value.int .i64)
theorem iv_len (ys : List Int) : (iv ys).length = ys.length := by simp [iv]
theorem iv_at {ys : List Int} {i : Nat} (h : i < ys.length) : (iv ys)[i]? = some (.int .i64 (ys.getD i 0)) := by
  simp [iv, List.getD_eq_getElem?_getD, List.getElem?_eq_getElem h]
theorem iv_set (ys : List Int) (i : Nat) (v : Int) : (iv ys).set i (.int .i64 v) = iv (ys.set i v) := by simp [iv, List.map_set]
theorem set_getD {ys : List Int} {i j : Nat} {v : Int} (h : i < ys.length) : (ys.set i v).getD j 0 = if j = i then v else ys.getD j 0 := by
  simp only [List.getD_eq_getElem?_getD, List.getElem?_set]
  by_cases hij : i = j
  · subst hij; simp [h]
  · rw [if_neg hij, if_neg (fun e => hij e.symm)]
theorem con_len (v : Int) : (con v).length = 256 := List.length_replicate
theorem con_at {v : Int} {i : Nat} (h : i < 256) : (con v).getD i 0 = v := by
  rw [List.getD_eq_getElem?_getD, List.getElem?_eq_getElem (by rw [con_len]; exact h)]
  exact List.getElem_replicate _
theorem blk_eq {g : Nat → Int} {k : Nat} {ys : List Int} (hl : ys.length = 256) (h : ∀ j, j < 256 → ys.getD j 0 = g (256 * k + j)) : ys = blk g k := by
  apply List.ext_getElem (by rw [hl, blk_len])
  intro i h1 h2
  have := h i (by omega)
  rw [← blk_at g k i (by omega), List.getD_eq_getElem?_getD, List.getD_eq_getElem?_getD, List.getElem?_eq_getElem h1, List.getElem?_eq_getElem h2] at this
  exact this
/-- searching the blocks one by one -/
theorem idx_found {bs : List (List Int)} {b : List Int} {q : Nat} (hq : q < bs.length) (hb : bs.getD q [] = b) (hn : ∀ i, i < q → bs.getD i [] ≠ b) : bs.idxOf b = q := by
  have hm : b ∈ bs := by
    rw [← hb, List.getD_eq_getElem?_getD, List.getElem?_eq_getElem hq]
    exact List.getElem_mem hq
  have h1 := List.idxOf_lt_length_iff.2 hm
  have h2 : bs.getD (bs.idxOf b) [] = b := by
    rw [List.getD_eq_getElem?_getD, List.getElem?_eq_getElem h1]; simp
  rcases Nat.lt_trichotomy (bs.idxOf b) q with h | h | h
  · exact absurd h2 (hn _ h)
  · exact h
  · have h3 : b ∈ bs.take (q + 1) := by
      rw [List.take_add_one, List.getElem?_eq_getElem hq]
      refine List.mem_append_right _ ?_
      rw [List.getD_eq_getElem?_getD, List.getElem?_eq_getElem hq] at hb
      simp only [Option.getD_some] at hb
      simp [hb]
    have h4 : bs.idxOf b = (bs.take (q + 1)).idxOf b := by
      conv => lhs; rw [← List.take_append_drop (q + 1) bs]
      rw [List.idxOf_append, if_pos h3]
    have h5 := List.idxOf_lt_length_iff.2 h3
    rw [List.length_take] at h5
    omega
theorem idx_none {bs : List (List Int)} {b : List Int} (hn : ∀ i, i < bs.length → bs.getD i [] ≠ b) : b ∉ bs := fun hm => by
  have h1 := List.idxOf_lt_length_iff.2 hm
  refine hn _ h1 ?_
  rw [List.getD_eq_getElem?_getD, List.getElem?_eq_getElem h1]
  simp
theorem pack_next {g : Nat → Int} {k : Nat} (h : blk g k ∉ (packN g k).2) : (packN g (k + 1)).1 = (packN g k).1 ++ [(packN g k).2.length] ∧ (packN g (k + 1)).2 = (packN g k).2 ++ [blk g k] := by
  rw [packN]
  exact ⟨by rw [List.idxOf_eq_length h], by rw [if_neg h]⟩
theorem pack_same {g : Nat → Int} {k : Nat} (h : blk g k ∈ (packN g k).2) : (packN g (k + 1)).1 = (packN g k).1 ++ [(packN g k).2.idxOf (blk g k)] ∧ (packN g (k + 1)).2 = (packN g k).2 := by
  rw [packN]
  exact ⟨rfl, by rw [if_pos h]⟩
theorem nats_snoc (l : List Nat) (n : Nat) : nats (l ++ [n]) = nats l ++ [(n : Int)] := by simp [nats]
theorem flatten_snoc (bs : List (List Int)) (b : List Int) : (bs ++ [b]).flatten = bs.flatten ++ b := by simp
end Go.Proofs.Ytialgjbponlipaa
