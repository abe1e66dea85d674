/- The statements' own check of three fixed inputs answers true. -/
import Derived.Test.YtbdmnahkfmildaaTlv6
namespace Go.Proofs.Ytbdmnahkfmildaa
open Go.RowKit

theorem readHead' (v : Value) (xs : List Int) (w : World) (h : Sl .u8 w v xs) (hu : U8 xs) {c t l s E : Int} {b : Bool} (hr : rd xs = (⟨c, t, b, l, s⟩, E)) :
    Calls Try.prog 9 #[v] w fun e w' => e = .returned (.tuple #[.agg #[.int .i64 c, .int .i64 t, .bool b, .int .i64 l, .int .i64 s], .int .i64 E]) ∧ Below w.heap.size w w' :=
  (readHead v xs w h hu).mono fun _ _ ⟨he, hw⟩ => ⟨by rw [he, hr]; rfl, hw⟩

theorem u8_of (xs : List Int) (h : xs.all (fun x => decide (0 ≤ x ∧ x ≤ 255)) = true) : U8 xs := fun x hx => by
  have := List.all_eq_true.1 h x hx
  simpa using this

set_option maxHeartbeats 1000000 in
theorem wakesOk (w : World) : Calls Try.prog 18 #[] w fun e w' => e = .returned (.bool true) ∧ Below w.heap.size w w' := by
  have r1 : Hid (rd [48, 3, 9] = (⟨0, 16, true, 3, 2⟩, 0)) := rfl
  have r2 : Hid (rd [48, 129, 3] = (⟨0, 0, false, 0, 0⟩, 4)) := rfl
  have r3 : Hid (hdB ((⟨0, 4, false, 0, 0⟩ : Hd).upon 1) ++ [7] = [4, 1, 7]) := by simp [Hid, hdB, idB, lenB, firstB, Hd.upon]
  have u1 : Hid (U8 [48, 3, 9]) := u8_of _ rfl
  have u2 : Hid (U8 [48, 129, 3]) := u8_of _ rfl
  have tok : True := trivial
  go_enter Try.func18, Try.ntmps18
  go_wp2_with (first
    | (go_at_call 9; have _t := tok; clear tok; refine (readHead' _ [48, 3, 9] _ (lit_sl (by simp) rfl rfl (by decide)) u1.out r1.out).mono ?_; rintro e w1 ⟨rfl, hb1⟩; have HB1 := hid (Below.trans (show Below w.heap.size w _ by (repeat (first | exact Below.refl _ _ | exact below_drewN _ | refine Below.drew ?_ | refine Below.alloc ?_ (by simp) _ | refine Below.setCell ?_ (by simp) _ | refine below_drewN' ?_ _))) (hb1.mono (by simp))); clear hb1)
    | (go_at_call 9; refine (readHead' _ [48, 129, 3] _ (lit_sl (by simp) rfl rfl (by decide)) u2.out r2.out).mono ?_; rintro e w2 ⟨rfl, hb2⟩; have HX2 := hid (Box.below ((Box.made w1 24 [.int .i64 0, .int .i64 16, .bool true, .int .i64 3, .int .i64 2]).alloc _) hb2 (by first | omega | (simp; omega) | simp)); have hz1 := HB1.out.size; have hz2 := hb2.size; simp at hz2; have HB2 := hid (Below.trans (Below.trans HB1.out (show Below w.heap.size w1 _ by (repeat (first | exact Below.refl _ _ | exact below_drewN _ | refine Below.drew ?_ | refine Below.alloc ?_ (by simp; omega) _ | refine Below.alloc ?_ (by omega) _ | refine Below.setCell ?_ (by simp; omega) _ | refine below_drewN' ?_ _)))) (hb2.mono (by simp; omega))); clear hb2)
    | (go_at_call 14; refine (wrapOk ⟨0, 4, false, 0, 0⟩ _ [7] _ (lit_sl (by simp) rfl rfl (by decide)) (by decide) (by decide)).mono ?_; rintro e w3 ⟨v3, rfl, ho3, hb3⟩; have HO3 := hid ho3; have HX3 := hid (Box.below ((HX2.out.alloc _).alloc _) hb3 (by have := HX2.out.lt; simp; omega)); have HB3 := hid (Below.trans (Below.trans HB2.out (show Below w.heap.size w2 _ by (repeat (first | exact Below.refl _ _ | exact below_drewN _ | refine Below.drew ?_ | refine Below.alloc ?_ (by simp; omega) _ | refine Below.alloc ?_ (by omega) _ | refine Below.setCell ?_ (by simp; omega) _ | refine below_drewN' ?_ _)))) (hb3.mono (by simp; omega))); have hz3 := hb3.size; simp at hz3; clear ho3 hb3; obtain ⟨k0, k1, k2, k3, k4⟩ := HX3.out.five)
    | (go_at_call 15; refine (keepBytes _ _ [4, 1, 7] [4, 1, 7] _ (by have h := HO3.out.sl; simp only [List.length_cons, List.length_nil] at h; rw [show ((0 + 1 : Nat) : Int) = 1 from rfl, r3.out] at h; exact h.below (by (repeat (first | exact Below.refl _ _ | exact below_drewN _ | refine Below.drew ?_ | refine Below.alloc ?_ (by simp) _ | refine Below.setCell ?_ (by simp) _ | refine below_drewN' ?_ _)))) (lit_sl (by simp) rfl rfl (by decide))).mono ?_; rintro e w4 ⟨rfl, n, rfl⟩))
  go_ret
  refine ⟨ret_bool (eqL_self _), Below.trans HB3.out ?_⟩
  (repeat (first | exact Below.refl _ _ | exact below_drewN _ | refine Below.drew ?_ | refine Below.alloc ?_ (by simp; omega) _ | refine Below.alloc ?_ (by omega) _ | refine Below.setCell ?_ (by simp; omega) _ | refine below_drewN' ?_ _))

end Go.Proofs.Ytbdmnahkfmildaa
