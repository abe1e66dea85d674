/- A value without parts is well formed whatever its content: the walk of the statement. For every input. -/
import Derived.Test.YtgjjncoelbhpeaaLawForms
namespace Go.Proofs.Ytgjjncoelbhpeaa
open Go.RowKit

set_option maxHeartbeats 2000000 in
theorem walkLeaf (cl tag : Int) (v : Value) (xs : List Int) (w : World) (h : Sl .u8 w v xs) (hu : U8 xs) :
    Calls Try.prog 8 #[.int .i64 cl, .int .i64 tag, v] w fun e w' => e = .returned (.bool true) ∧ Below w.heap.size w w' := by
  have HS := hid h
  have hl := h.len
  obtain ⟨c0, c1⟩ := ix_bd cl 3 (by decide) (by decide)
  obtain ⟨t0, t1⟩ := ix_bd tag 100 (by decide) (by decide)
  obtain ⟨a, cap, rfl, -, -, -⟩ := h
  by_cases hlen : 700 < xs.length
  · go_enter Try.func8, Try.ntmps8
    go_wp2
    go_ret
    exact ⟨rfl, Below.refl _ _⟩
  · go_enter Try.func8, Try.ntmps8
    go_upto_region 4 with (fail)
    have C0 : 1 ≤ 1 + wrap64 ((IntKind.u64.wrap cl).tmod 3) ∧ 1 + wrap64 ((IntKind.u64.wrap cl).tmod 3) ≤ 3 := by omega
    generalize 1 + wrap64 ((IntKind.u64.wrap cl).tmod 3) = C at C0 ⊢
    generalize wrap64 ((IntKind.u64.wrap tag).tmod 100) = T at t0 t1 ⊢
    obtain ⟨C0, C1⟩ := C0
    clear c0 c1
    have hok : HdOk ⟨C, T, false, xs.length, 0⟩ := ⟨⟨by dsimp only; omega, by dsimp only; omega⟩, ⟨t0, by dsimp only; omega⟩, ⟨by dsimp only; omega, by dsimp only; omega⟩⟩
    have hh : headE (wrapL C T false xs) = 0 := by rw [wrap_head hok, if_neg (by omega), if_neg (by have : C ≠ 0 := (by omega); simp [rightS, this])]
    have HW : Hid (wellS (wrapL C T false xs) = ⟨0, 0, 1⟩) := wellS_of (wrap_leaf hok hh 31) rfl
    have HC : Hid (¬ (rd (wrapL C T false xs)).1.cons = true) := by show ¬ _; rw [wrap_cons hok]; simp
    have HL := hid (hdN_bd hok hu)
    have HL2 := hid (wrap_len (c := C) (t := T) (b := false) (xs := xs))
    have HO := hid (wrap_one hok)
    have HU := hid (wrap_u8 hok hu)
    have HOK := hid hok
    clear hok hh
    go_wp2_with (first
      | (go_at_call 20; refine (refWrap C T false _ xs _ HS.out HOK.out (by omega)).mono ?_; rintro e w1 ⟨v1, rfl, ho1, hb1⟩; have HO1 := hid (show Own .u8 5 w.heap.size w1 v1 (wrapL C T false xs) from ho1); have HB1 := hid hb1; clear ho1 hb1)
      | (go_at_call 11; refine (wellCheck _ (wrapL C T false xs) _ HO1.out.sl HU.out HW.out).mono ?_; rintro e w2 ⟨rfl, hb2⟩; have HO2 := hid (HO1.out.below hb2); have HB2 := hid (HB1.out.trans (hb2.mono HB1.out.size)); clear hb2)
      | (go_at_call 13; refine (wellDepth _ (wrapL C T false xs) _ HO2.out.sl HU.out HW.out).mono ?_; rintro e w3 ⟨rfl, hb3⟩; have HO3 := hid (HO2.out.below hb3); have HB3 := hid (HB2.out.trans (hb3.mono HB2.out.size)); clear hb3)
      | (go_at_call 12; refine (wellPartsLeaf _ (wrapL C T false xs) _ HO3.out.sl HU.out HW.out HC.out).mono ?_; rintro e w4 ⟨rfl, hb4⟩; have HO4 := hid (HO3.out.below hb4); have HB4 := hid (HB3.out.trans (hb4.mono HB3.out.size)); clear hb4)
      | (go_at_call 21; refine (tlvOne' _ (wrapL C T false xs) _ HO4.out.sl HU.out (by rw [HL2.out]; have := HL.out; omega) HO.out).mono ?_; rintro e w5 ⟨y5, r5, rfl, hy5, hr5, hb5⟩; obtain ⟨ar, cr, hvr, -⟩ := hr5.sl; simp only [List.length_nil] at hvr; subst hvr; have HY5 := hid hy5; have HB5 := hid (HB4.out.trans (hb5.mono HB4.out.size)); have hz5 := HB5.out.size; clear hb5 hr5 hy5)
      | (go_at_call 15; refine (keepBytes _ _ xs xs _ (HY5.out.alloc _).sl (HS.out.below (HB5.out.alloc hz5 _))).mono ?_; rw [eqL_self]; rintro e w6 ⟨rfl, n6, rfl⟩; have HB6 := hid (below_drewN' (HB5.out.alloc hz5 (.cells #[.int .i64 C, .int .i64 T, .bool false, .int .i64 (xs.length : Int), .int .i64 ((hdN C T false xs.length : Nat) : Int)] 35)) n6))
      | (go_at_call 16; refine (wakesOk _).mono ?_; rintro e w7 ⟨rfl, hb7⟩; have HB7 := hid (HB6.out.trans (hb7.mono HB6.out.size)); clear hb7))
    go_ret
    exact ⟨rfl, HB7.out⟩

end Go.Proofs.Ytgjjncoelbhpeaa
