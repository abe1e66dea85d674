/- The statements' own check of two fixed inputs answers true. -/
import Derived.Test.YtgjjncoelbhpeaaWell5
namespace Go.Proofs.Ytgjjncoelbhpeaa
open Go.RowKit

theorem wk_leaf : valW 31 [2, 1, 5] = ⟨0, 3, 1⟩ := oneW_leaf (g := listW (valW 30)) (by decide) (by decide)
theorem wk_bad : valW 31 [2, 2, 5] = ⟨2, 0, 0⟩ := oneW_bad (g := listW (valW 30)) (xs := [2, 2, 5]) (by decide)
theorem wk_in : listW (valW 31) [2, 1, 5] = ⟨0, 3, 1⟩ := by
  rw [listW_on (by simp) (by rw [wk_leaf]) (by rw [wk_leaf]; decide), wk_leaf]
  show joinW 3 1 (listW _ []) = _
  rw [listW_nil]; rfl
theorem wk_good : wellS [48, 3, 2, 1, 5] = ⟨0, 0, 2⟩ := by
  have h : valW 32 [48, 3, 2, 1, 5] = ⟨0, 5, 2⟩ := by
    show oneW (listW (valW 31)) [48, 3, 2, 1, 5] = _
    rw [oneW_in (by decide) (by decide), show bodyS [48, 3, 2, 1, 5] = [2, 1, 5] from rfl, wk_in]; rfl
  unfold wellS
  rw [h]; rfl
theorem wk_short : wellS [48, 3, 2, 2, 5] = ⟨2, 2, 0⟩ := by
  have h : valW 32 [48, 3, 2, 2, 5] = ⟨2, 2, 0⟩ := by
    show oneW (listW (valW 31)) [48, 3, 2, 2, 5] = _
    rw [oneW_in (by decide) (by decide), show bodyS [48, 3, 2, 2, 5] = [2, 2, 5] from rfl, listW_err (by simp) (by rw [wk_bad]; decide), wk_bad]; rfl
  unfold wellS
  rw [h]; rfl
theorem wk_parts : partsS (bodyS [48, 3, 2, 1, 5]) = [[2, 1, 5]] := by
  rw [show bodyS [48, 3, 2, 1, 5] = [2, 1, 5] from rfl, partsS_on (by simp) (by decide)]
  show [2, 1, 5] :: partsS [] = _
  rw [partsS_nil]

theorem rows_len {te tb base : Nat} {w : World} {v : Value} {xss : List (List Int)} (h : OwnRows te tb base w v xss) : ∃ a c, v = .slice a xss.length c := by
  obtain ⟨vs, h1, h2, -⟩ := h
  obtain ⟨a, c, hv, -⟩ := Sv.of_row h2
  exact ⟨a, c, by rw [← h1]; exact hv⟩

set_option maxHeartbeats 1000000 in
theorem wakesOk (w : World) : Calls Try.prog 16 #[] w fun e w' => e = .returned (.bool true) ∧ Below w.heap.size w w' := by
  have u1 : Hid (U8 [48, 3, 2, 1, 5]) := u8_of _ rfl
  have u2 : Hid (U8 [48, 3, 2, 2, 5]) := u8_of _ rfl
  have tok : True := trivial
  go_enter Try.func16, Try.ntmps16
  go_wp2_with (first
    | (go_at_call 11; have _t := tok; clear tok; refine (wellCheck _ [48, 3, 2, 1, 5] _ (lit_sl (by simp) rfl rfl (by decide)) u1.out wk_good).mono ?_; rintro e w1 ⟨rfl, hb1⟩; have HB1 := hid (Below.trans (show Below w.heap.size w _ by (repeat (first | exact Below.refl _ _ | exact below_drewN _ | refine Below.drew ?_ | refine Below.alloc ?_ (by simp) _ | refine Below.setCell ?_ (by simp) _ | refine below_drewN' ?_ _))) (hb1.mono (by simp))); have hz1 := HB1.out.size; clear hb1)
    | (go_at_call 13; refine (wellDepth _ [48, 3, 2, 1, 5] _ (lit_sl (by simp) rfl rfl (by decide)) u1.out wk_good).mono ?_; rintro e w2 ⟨rfl, hb2⟩; have HB2 := hid (Below.trans (HB1.out.alloc hz1 _) (hb2.mono (by simp; omega))); have hz2 := HB2.out.size; clear hb2)
    | (go_at_call 12; refine (wellPartsOk _ [48, 3, 2, 1, 5] _ (lit_sl (by simp) rfl rfl (by decide)) u1.out (by decide) wk_good (by decide)).mono ?_; rw [wk_parts]; rintro e w3 ⟨v3, rfl, hr3, hb3⟩; obtain ⟨a3, c3, hv3⟩ := rows_len hr3; subst hv3; have HB3 := hid (Below.trans (HB2.out.alloc hz2 _) (hb3.mono (by simp; omega))); have hz3 := HB3.out.size; clear hb3 hr3)
    | (go_at_call 11; refine (wellCheck _ [48, 3, 2, 2, 5] _ (lit_sl (by simp) rfl rfl (by decide)) u2.out wk_short).mono ?_; rintro e w4 ⟨rfl, hb4⟩; have HB4 := hid (Below.trans (HB3.out.alloc hz3 _) (hb4.mono (by simp; omega))); clear hb4))
  all_goals go_outline
  go_ret
  exact ⟨rfl, HB4.out⟩

end Go.Proofs.Ytgjjncoelbhpeaa
