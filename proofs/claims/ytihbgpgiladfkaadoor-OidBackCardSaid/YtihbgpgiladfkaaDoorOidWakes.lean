/- Contract of law03's waking check: it answers true and leaves what was there as it was. -/
import Derived.Test.YtihbgpgiladfkaaDoorOid6
import Derived.Test.YtihbgpgiladfkaaDoorOid8
namespace Go.Proofs.YtihbgpgiladfkaaDoor
open Go.RowKit

theorem sept_small {n : Nat} (h : n < 128) : sept n = [(n : Int)] := by
  unfold sept
  rw [show n / 128 = 0 by omega, septHi_zero, List.nil_append, Nat.mod_eq_of_lt h]
theorem wk_ok : oidOk [2, 5, 4, 3] = true := by decide
theorem wk_cont : contentS [2, 5, 4, 3] = [85, 4, 3] := by
  show groups [85, 4, 3] = _
  rw [groups_cons, groups_cons, groups_cons, groups_nil]
  rw [show ((85 : Int)).toNat = 85 from rfl, show ((4 : Int)).toNat = 4 from rfl, show ((3 : Int)).toNat = 3 from rfl, sept_small (by omega), sept_small (by omega), sept_small (by omega)]
  rfl
theorem wk_contX : contX [2, 5, 4, 3] = [85, 4, 3] := by unfold contX; rw [if_pos wk_ok, wk_cont]
theorem wk_read : readS [85, 4, 3] = some [2, 5, 4, 3] := by rw [← wk_cont]; exact read_back _ wk_ok
theorem dec_one {n : Int} (h0 : 0 ≤ n) (h1 : n < 10) : decS n.toNat = [48 + n] := by
  rw [decS_small (by omega)]
  congr 1
  omega
theorem wk_text : textX [2, 5, 4, 3] = [50, 46, 53, 46, 52, 46, 51] := by
  unfold textX
  rw [if_pos wk_ok]
  simp only [textS]
  rw [dec_one (by omega) (by omega), dec_one (by omega) (by omega), dec_one (by omega) (by omega), dec_one (by omega) (by omega)]
  rfl
theorem wk_str : strOf [50, 46, 53, 46, 52, 46, 51] = ⟨#[50, 46, 53, 46, 52, 46, 51]⟩ := rfl
theorem wk_parse : parseS (sx ⟨#[49, 46, 50, 46, 56, 52, 48]⟩) = some [1, 2, 840] := by
  show parseS [49, 46, 50, 46, 56, 52, 48] = _
  decide
theorem i64_lit {xs : List Int} (h : xs.all (fun x => decide (-9223372036854775808 ≤ x ∧ x ≤ 9223372036854775807)) = true) : I64 xs := fun x hx => by
  have := List.all_eq_true.1 h x hx
  simpa using this
theorem u8_lit {xs : List Int} (h : xs.all (fun x => decide (0 ≤ x ∧ x ≤ 255)) = true) : U8 xs := fun x hx => by
  have := List.all_eq_true.1 h x hx
  simpa using this

set_option maxHeartbeats 1000000 in
theorem lawWakes (w : World) (ht : Tab w) (hm : MaxL w) : Calls Tryd.prog 17 #[] w fun e w' => e = .returned (.bool true) ∧ Below w.heap.size w w' := by
  go_enter Tryd.func17, Tryd.ntmps17
  go_wp2_with (first
    | (go_at_call 8; go_loud (refine (oidContent _ [2, 5, 4, 3] _ (lit_sl rfl rfl rfl (by simp)) (i64_lit (by decide))).mono ?_; rw [wk_contX, chk_ok wk_ok]; rintro e w2 ⟨v2, rfl, ho2, hb2⟩; obtain ⟨a2, c2, hv2⟩ := ho2.sl.form; subst hv2; have HO2 := hid ho2; have HB2 := hid (Below.trans (show Below w.heap.size w _ by (repeat (first | exact Below.refl _ _ | exact below_drewN _ | refine Below.drew ?_ | refine Below.alloc ?_ (by simp; omega) _ | refine Below.alloc ?_ (by omega) _ | refine Below.setCell ?_ (by simp; omega) _ | refine below_drewN' ?_ _))) (hb2.mono (by simp))); clear ho2 hb2))
    | (go_at_call 10; go_loud (refine (oidRead _ [85, 4, 3] _ HO2.out.sl (u8_lit (by decide)) (by simp)).mono ?_; rw [wk_read, show errO (some [2, 5, 4, 3]) = 0 from rfl]; rintro e w3 ⟨v3, rfl, ho3, hb3⟩; have HO3 := hid ho3; have HB3 := hid (HB2.out.trans (hb3.mono HB2.out.size)); clear ho3 hb3))
    | (go_at_call 9; go_loud (refine (oidText _ [2, 5, 4, 3] _ HO3.out.sl (i64_lit (by decide)) (ht.below HB3.out)).mono ?_; rw [wk_text, wk_str, chk_ok wk_ok]; rintro e w4 ⟨rfl, hb4⟩; have HB4 := hid (HB3.out.trans (hb4.mono HB3.out.size)); clear hb4))
    | (go_at_call 11; go_loud (refine (oidParse _ _ (hm.below HB4.out) (by simp [ByteArray.size])).mono ?_; rw [wk_parse, show errO (some [1, 2, 840]) = 0 from rfl]; rintro e w5 ⟨v5, rfl, ho5, hb5⟩; have HO5 := hid ho5; have HB5 := hid (HB4.out.trans (hb5.mono HB4.out.size)); clear ho5 hb5))
    | (go_at_call 14; go_loud (refine (keepInts _ _ [1, 2, 840] [1, 2, 840] _ (HO5.out.sl.below (by (repeat (first | exact Below.refl _ _ | exact below_drewN _ | refine Below.drew ?_ | refine Below.alloc ?_ (by simp) _ | refine Below.setCell ?_ (by simp) _ | refine below_drewN' ?_ _)))) (lit_sl rfl rfl rfl (by simp))).mono ?_; rw [eqL_self]; rintro e w6 ⟨rfl, n, rfl⟩))
    | (go_at_call 16; go_loud (refine (oidCheck _ [3, 1] _ (lit_sl (by first | simp | rfl) rfl rfl (by simp)) (i64_lit (by decide))).mono ?_; rw [chk_bad (show oidOk [3, 1] = false by decide)]; rintro e w7 ⟨rfl, n7, rfl⟩)))
  go_ret
  have hz5 := HB5.out.size
  refine ⟨rfl, HB5.out.trans ?_⟩
  (repeat (first | exact Below.refl _ _ | exact below_drewN _ | refine Below.drew ?_ | refine Below.alloc ?_ (by simp; omega) _ | refine Below.alloc ?_ (by omega) _ | refine Below.setCell ?_ (by simp; omega) _ | refine below_drewN' ?_ _))
end Go.Proofs.YtihbgpgiladfkaaDoor
