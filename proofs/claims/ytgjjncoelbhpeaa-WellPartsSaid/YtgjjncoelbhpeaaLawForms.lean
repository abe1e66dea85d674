/- A universal value has parts just if its tag says so; of other classes, and of long tags, either is right: the walk of the statement. For every input. -/
import Derived.Test.YtgjjncoelbhpeaaWell6
import Derived.Test.YtgjjncoelbhpeaaWellWrap
import Derived.Test.YtgjjncoelbhpeaaRefWrap
namespace Go.Proofs.Ytgjjncoelbhpeaa
open Go.RowKit

theorem nil_sl (w : World) : Sl .u8 w (.slice none 0 0) [] := ⟨none, 0, rfl, Nat.le_refl _, by unfold maxLen; omega, .inl rfl⟩
theorem ix_bd (x : Int) (k : Int) (h : 0 < k) (hk : k ≤ 1000000) : 0 ≤ wrap64 ((IntKind.u64.wrap x).tmod k) ∧ wrap64 ((IntKind.u64.wrap x).tmod k) < k := by
  have h1 : 0 ≤ IntKind.u64.wrap x := by simp only [IntKind.wrap_u64]; omega
  rw [Int.tmod_eq_emod_of_nonneg h1]
  have h2 := Int.emod_nonneg (IntKind.u64.wrap x) (by omega : k ≠ 0)
  have h3 := Int.emod_lt_of_pos (IntKind.u64.wrap x) h
  unfold wrap64
  omega

set_option maxHeartbeats 2000000 in
theorem walkForms (cl tag : Int) (cons : Bool) (w : World) :
    Calls Try.prog 7 #[.int .i64 cl, .int .i64 tag, .bool cons] w fun e w' => e = .returned (.bool true) ∧ Below w.heap.size w w' := by
  obtain ⟨c0, c1⟩ := ix_bd cl 4 (by decide) (by decide)
  obtain ⟨t0, t1⟩ := ix_bd tag 60 (by decide) (by decide)
  go_enter Try.func7, Try.ntmps7
  go_upto_region 2 with (fail)
  generalize wrap64 ((IntKind.u64.wrap cl).tmod 4) = C at c0 c1 ⊢
  generalize wrap64 ((IntKind.u64.wrap tag).tmod 60) = T at t0 t1 ⊢
  have hok : HdOk ⟨C, T, cons, ([] : List Int).length, 0⟩ := ⟨⟨c0, by dsimp only; omega⟩, ⟨t0, by dsimp only; omega⟩, ⟨by simp, by simp⟩⟩
  have hw := well_empty hok
  have HOK := hid hok
  clear hok
  by_cases hC : C = 0
  · subst hC
    rcases (show T = 0 ∨ 31 ≤ T ∨ T = 8 ∨ T = 11 ∨ T = 16 ∨ T = 17 ∨ (T ≠ 0 ∧ T < 31 ∧ T ≠ 8 ∧ T ≠ 11 ∧ T ≠ 16 ∧ T ≠ 17) by omega) with rfl | h | rfl | rfl | rfl | rfl | h
    · have HW := hid hw
      rw [if_pos ⟨rfl, rfl⟩] at HW
      clear hw
      go_wp2_with (first
        | (go_at_call 20; refine (refWrap 0 0 cons _ [] _ (nil_sl _) HOK.out (by decide)).mono ?_; rintro e w1 ⟨v1, rfl, ho1, hb1⟩; have HO1 := hid ho1; have HB1 := hid hb1; clear ho1 hb1)
        | (go_at_call 11; refine (wellCheck _ (wrapL 0 0 cons []) _ HO1.out.sl (wrap_u8 HOK.out U8.nil) HW.out).mono ?_; rintro e w2 ⟨rfl, hb2⟩; have HB2 := hid (HB1.out.trans (hb2.mono HB1.out.size)); clear hb2)
        | (go_at_call 16; refine (wakesOk _).mono ?_; rintro e w3 ⟨rfl, hb3⟩; have HB3 := hid (HB2.out.trans (hb3.mono HB2.out.size)); clear hb3))
      all_goals go_ret
      all_goals exact ⟨rfl, HB3.out⟩
    · have HW : Hid (wellS (wrapL 0 T cons []) = ⟨0, 0, 1⟩) := by show _ = _; rw [hw, if_neg (by omega), if_neg (by simp [rightS, h])]
      have ht0 : (T == 0) = false := by simp; omega
      clear hw
      go_wp2_with (first
        | (go_at_call 20; refine (refWrap 0 T cons _ [] _ (nil_sl _) HOK.out (by decide)).mono ?_; rintro e w1 ⟨v1, rfl, ho1, hb1⟩; have HO1 := hid ho1; have HB1 := hid hb1; clear ho1 hb1)
        | (go_at_call 11; refine (wellCheck _ (wrapL 0 T cons []) _ HO1.out.sl (wrap_u8 HOK.out U8.nil) HW.out).mono ?_; rintro e w2 ⟨rfl, hb2⟩; have HB2 := hid (HB1.out.trans (hb2.mono HB1.out.size)); clear hb2)
        | (go_at_call 16; refine (wakesOk _).mono ?_; rintro e w3 ⟨rfl, hb3⟩; have HB3 := hid (HB2.out.trans (hb3.mono HB2.out.size)); clear hb3))
      all_goals go_ret
      all_goals exact ⟨rfl, HB3.out⟩
    · cases cons
      · have HW : Hid (wellS (wrapL 0 8 false []) = ⟨7, 0, 0⟩) := by show _ = _; rw [hw]; rfl
        clear hw
        go_wp2_with (first
        | (go_at_call 20; refine (refWrap 0 8 false _ [] _ (nil_sl _) HOK.out (by decide)).mono ?_; rintro e w1 ⟨v1, rfl, ho1, hb1⟩; have HO1 := hid ho1; have HB1 := hid hb1; clear ho1 hb1)
        | (go_at_call 11; refine (wellCheck _ (wrapL 0 8 false []) _ HO1.out.sl (wrap_u8 HOK.out U8.nil) HW.out).mono ?_; rintro e w2 ⟨rfl, hb2⟩; have HB2 := hid (HB1.out.trans (hb2.mono HB1.out.size)); clear hb2)
        | (go_at_call 16; refine (wakesOk _).mono ?_; rintro e w3 ⟨rfl, hb3⟩; have HB3 := hid (HB2.out.trans (hb3.mono HB2.out.size)); clear hb3))
        all_goals go_ret
        all_goals exact ⟨rfl, HB3.out⟩
      · have HW : Hid (wellS (wrapL 0 8 true []) = ⟨0, 0, 1⟩) := by show _ = _; rw [hw]; rfl
        clear hw
        go_wp2_with (first
        | (go_at_call 20; refine (refWrap 0 8 true _ [] _ (nil_sl _) HOK.out (by decide)).mono ?_; rintro e w1 ⟨v1, rfl, ho1, hb1⟩; have HO1 := hid ho1; have HB1 := hid hb1; clear ho1 hb1)
        | (go_at_call 11; refine (wellCheck _ (wrapL 0 8 true []) _ HO1.out.sl (wrap_u8 HOK.out U8.nil) HW.out).mono ?_; rintro e w2 ⟨rfl, hb2⟩; have HB2 := hid (HB1.out.trans (hb2.mono HB1.out.size)); clear hb2)
        | (go_at_call 16; refine (wakesOk _).mono ?_; rintro e w3 ⟨rfl, hb3⟩; have HB3 := hid (HB2.out.trans (hb3.mono HB2.out.size)); clear hb3))
        all_goals go_ret
        all_goals exact ⟨rfl, HB3.out⟩
    · cases cons
      · have HW : Hid (wellS (wrapL 0 11 false []) = ⟨7, 0, 0⟩) := by show _ = _; rw [hw]; rfl
        clear hw
        go_wp2_with (first
        | (go_at_call 20; refine (refWrap 0 11 false _ [] _ (nil_sl _) HOK.out (by decide)).mono ?_; rintro e w1 ⟨v1, rfl, ho1, hb1⟩; have HO1 := hid ho1; have HB1 := hid hb1; clear ho1 hb1)
        | (go_at_call 11; refine (wellCheck _ (wrapL 0 11 false []) _ HO1.out.sl (wrap_u8 HOK.out U8.nil) HW.out).mono ?_; rintro e w2 ⟨rfl, hb2⟩; have HB2 := hid (HB1.out.trans (hb2.mono HB1.out.size)); clear hb2)
        | (go_at_call 16; refine (wakesOk _).mono ?_; rintro e w3 ⟨rfl, hb3⟩; have HB3 := hid (HB2.out.trans (hb3.mono HB2.out.size)); clear hb3))
        all_goals go_ret
        all_goals exact ⟨rfl, HB3.out⟩
      · have HW : Hid (wellS (wrapL 0 11 true []) = ⟨0, 0, 1⟩) := by show _ = _; rw [hw]; rfl
        clear hw
        go_wp2_with (first
        | (go_at_call 20; refine (refWrap 0 11 true _ [] _ (nil_sl _) HOK.out (by decide)).mono ?_; rintro e w1 ⟨v1, rfl, ho1, hb1⟩; have HO1 := hid ho1; have HB1 := hid hb1; clear ho1 hb1)
        | (go_at_call 11; refine (wellCheck _ (wrapL 0 11 true []) _ HO1.out.sl (wrap_u8 HOK.out U8.nil) HW.out).mono ?_; rintro e w2 ⟨rfl, hb2⟩; have HB2 := hid (HB1.out.trans (hb2.mono HB1.out.size)); clear hb2)
        | (go_at_call 16; refine (wakesOk _).mono ?_; rintro e w3 ⟨rfl, hb3⟩; have HB3 := hid (HB2.out.trans (hb3.mono HB2.out.size)); clear hb3))
        all_goals go_ret
        all_goals exact ⟨rfl, HB3.out⟩
    · cases cons
      · have HW : Hid (wellS (wrapL 0 16 false []) = ⟨7, 0, 0⟩) := by show _ = _; rw [hw]; rfl
        clear hw
        go_wp2_with (first
        | (go_at_call 20; refine (refWrap 0 16 false _ [] _ (nil_sl _) HOK.out (by decide)).mono ?_; rintro e w1 ⟨v1, rfl, ho1, hb1⟩; have HO1 := hid ho1; have HB1 := hid hb1; clear ho1 hb1)
        | (go_at_call 11; refine (wellCheck _ (wrapL 0 16 false []) _ HO1.out.sl (wrap_u8 HOK.out U8.nil) HW.out).mono ?_; rintro e w2 ⟨rfl, hb2⟩; have HB2 := hid (HB1.out.trans (hb2.mono HB1.out.size)); clear hb2)
        | (go_at_call 16; refine (wakesOk _).mono ?_; rintro e w3 ⟨rfl, hb3⟩; have HB3 := hid (HB2.out.trans (hb3.mono HB2.out.size)); clear hb3))
        all_goals go_ret
        all_goals exact ⟨rfl, HB3.out⟩
      · have HW : Hid (wellS (wrapL 0 16 true []) = ⟨0, 0, 1⟩) := by show _ = _; rw [hw]; rfl
        clear hw
        go_wp2_with (first
        | (go_at_call 20; refine (refWrap 0 16 true _ [] _ (nil_sl _) HOK.out (by decide)).mono ?_; rintro e w1 ⟨v1, rfl, ho1, hb1⟩; have HO1 := hid ho1; have HB1 := hid hb1; clear ho1 hb1)
        | (go_at_call 11; refine (wellCheck _ (wrapL 0 16 true []) _ HO1.out.sl (wrap_u8 HOK.out U8.nil) HW.out).mono ?_; rintro e w2 ⟨rfl, hb2⟩; have HB2 := hid (HB1.out.trans (hb2.mono HB1.out.size)); clear hb2)
        | (go_at_call 16; refine (wakesOk _).mono ?_; rintro e w3 ⟨rfl, hb3⟩; have HB3 := hid (HB2.out.trans (hb3.mono HB2.out.size)); clear hb3))
        all_goals go_ret
        all_goals exact ⟨rfl, HB3.out⟩
    · cases cons
      · have HW : Hid (wellS (wrapL 0 17 false []) = ⟨7, 0, 0⟩) := by show _ = _; rw [hw]; rfl
        clear hw
        go_wp2_with (first
        | (go_at_call 20; refine (refWrap 0 17 false _ [] _ (nil_sl _) HOK.out (by decide)).mono ?_; rintro e w1 ⟨v1, rfl, ho1, hb1⟩; have HO1 := hid ho1; have HB1 := hid hb1; clear ho1 hb1)
        | (go_at_call 11; refine (wellCheck _ (wrapL 0 17 false []) _ HO1.out.sl (wrap_u8 HOK.out U8.nil) HW.out).mono ?_; rintro e w2 ⟨rfl, hb2⟩; have HB2 := hid (HB1.out.trans (hb2.mono HB1.out.size)); clear hb2)
        | (go_at_call 16; refine (wakesOk _).mono ?_; rintro e w3 ⟨rfl, hb3⟩; have HB3 := hid (HB2.out.trans (hb3.mono HB2.out.size)); clear hb3))
        all_goals go_ret
        all_goals exact ⟨rfl, HB3.out⟩
      · have HW : Hid (wellS (wrapL 0 17 true []) = ⟨0, 0, 1⟩) := by show _ = _; rw [hw]; rfl
        clear hw
        go_wp2_with (first
        | (go_at_call 20; refine (refWrap 0 17 true _ [] _ (nil_sl _) HOK.out (by decide)).mono ?_; rintro e w1 ⟨v1, rfl, ho1, hb1⟩; have HO1 := hid ho1; have HB1 := hid hb1; clear ho1 hb1)
        | (go_at_call 11; refine (wellCheck _ (wrapL 0 17 true []) _ HO1.out.sl (wrap_u8 HOK.out U8.nil) HW.out).mono ?_; rintro e w2 ⟨rfl, hb2⟩; have HB2 := hid (HB1.out.trans (hb2.mono HB1.out.size)); clear hb2)
        | (go_at_call 16; refine (wakesOk _).mono ?_; rintro e w3 ⟨rfl, hb3⟩; have HB3 := hid (HB2.out.trans (hb3.mono HB2.out.size)); clear hb3))
        all_goals go_ret
        all_goals exact ⟨rfl, HB3.out⟩
    · have e0 : (T == 0) = false := by simp; omega
      have e1 : (T == 8) = false := by simp; omega
      have e2 : (T == 11) = false := by simp; omega
      have e3 : (T == 16) = false := by simp; omega
      have e4 : (T == 17) = false := by simp; omega
      have e5 : T < 31 := h.2.1
      cases cons
      · have HW : Hid (wellS (wrapL 0 T false []) = ⟨0, 0, 1⟩) := by
          show _ = _
          rw [hw, if_neg (by omega)]
          have hr : rightS ⟨0, T, false, 0, 0⟩ = true := by simp [rightS]; omega
          rw [hr]; rfl
        clear hw h
        go_wp2_with (first
        | (go_at_call 20; refine (refWrap 0 T false _ [] _ (nil_sl _) HOK.out (by decide)).mono ?_; rintro e w1 ⟨v1, rfl, ho1, hb1⟩; have HO1 := hid ho1; have HB1 := hid hb1; clear ho1 hb1)
        | (go_at_call 11; refine (wellCheck _ (wrapL 0 T false []) _ HO1.out.sl (wrap_u8 HOK.out U8.nil) HW.out).mono ?_; rintro e w2 ⟨rfl, hb2⟩; have HB2 := hid (HB1.out.trans (hb2.mono HB1.out.size)); clear hb2)
        | (go_at_call 16; refine (wakesOk _).mono ?_; rintro e w3 ⟨rfl, hb3⟩; have HB3 := hid (HB2.out.trans (hb3.mono HB2.out.size)); clear hb3))
        all_goals go_ret
        all_goals exact ⟨rfl, HB3.out⟩
      · have HW : Hid (wellS (wrapL 0 T true []) = ⟨7, 0, 0⟩) := by
          show _ = _
          rw [hw, if_neg (by omega)]
          have hr : rightS ⟨0, T, true, 0, 0⟩ = false := by simp [rightS]; omega
          rw [hr]; rfl
        clear hw h
        go_wp2_with (first
        | (go_at_call 20; refine (refWrap 0 T true _ [] _ (nil_sl _) HOK.out (by decide)).mono ?_; rintro e w1 ⟨v1, rfl, ho1, hb1⟩; have HO1 := hid ho1; have HB1 := hid hb1; clear ho1 hb1)
        | (go_at_call 11; refine (wellCheck _ (wrapL 0 T true []) _ HO1.out.sl (wrap_u8 HOK.out U8.nil) HW.out).mono ?_; rintro e w2 ⟨rfl, hb2⟩; have HB2 := hid (HB1.out.trans (hb2.mono HB1.out.size)); clear hb2)
        | (go_at_call 16; refine (wakesOk _).mono ?_; rintro e w3 ⟨rfl, hb3⟩; have HB3 := hid (HB2.out.trans (hb3.mono HB2.out.size)); clear hb3))
        all_goals go_ret
        all_goals exact ⟨rfl, HB3.out⟩
  · have HW : Hid (wellS (wrapL C T cons []) = ⟨0, 0, 1⟩) := by show _ = _; rw [hw, if_neg (by omega), if_neg (by simp [rightS, hC])]
    have hc0 : (C == 0) = false := by simp [hC]
    clear hw hC
    go_wp2_with (first
        | (go_at_call 20; refine (refWrap C T cons _ [] _ (nil_sl _) HOK.out (by decide)).mono ?_; rintro e w1 ⟨v1, rfl, ho1, hb1⟩; have HO1 := hid ho1; have HB1 := hid hb1; clear ho1 hb1)
        | (go_at_call 11; refine (wellCheck _ (wrapL C T cons []) _ HO1.out.sl (wrap_u8 HOK.out U8.nil) HW.out).mono ?_; rintro e w2 ⟨rfl, hb2⟩; have HB2 := hid (HB1.out.trans (hb2.mono HB1.out.size)); clear hb2)
        | (go_at_call 16; refine (wakesOk _).mono ?_; rintro e w3 ⟨rfl, hb3⟩; have HB3 := hid (HB2.out.trans (hb3.mono HB2.out.size)); clear hb3))
    all_goals go_ret
    all_goals exact ⟨rfl, HB3.out⟩

end Go.Proofs.Ytgjjncoelbhpeaa
