/- Contract of law06's wakes: a letter and a mark, and what the tables say at some numbers: true. -/
import Derived.Test.YtpdcmfnemfopjaaUcdFacts
import Derived.Test.YtpdcmfnemfopjaaKeepInts
namespace Go.Proofs.Ytpdcmfnemfopjaa
open Go.RowKit

set_option maxHeartbeats 4000000 in
theorem lawWakes6 (w : World) : Calls Try.prog 30 #[] w fun e w' => e = .returned (.bool true) ∧ Below w.heap.size w w' := by
  have HP1 := hid (fun w => ucdPair 65 768 w)
  rw [f_pair1] at HP1
  have HP2 := hid (fun w => ucdPair 776 769 w)
  rw [f_pair2] at HP2
  have HC := hid (fun w => ucdClass 768 w)
  rw [f_class] at HC
  have HS1 := hid (fun w => ucdSpace 32 w)
  rw [f_space1] at HS1
  have HS2 := hid (fun w => ucdSpace 160 w)
  rw [f_space2] at HS2
  have HF := hid (fun w => ucdFold 223 w)
  rw [f_fold] at HF
  have HN := hid (fun w => ucdCanon 8490 w)
  rw [f_canon] at HN
  go_enter Try.func30, Try.ntmps30
  go_wp2_with (first
    | (have _u := HB8; clear _u; go_at_call 23; refine (keepInts v8 _ [75] [75] _ (HO8.out.below (by (repeat (first | exact Below.refl _ _ | exact below_drewN _ | refine Below.drew ?_ | refine Below.alloc ?_ (by simp) _ | refine Below.setCell ?_ (by simp) _ | refine below_drewN' ?_ _)))) (lit_sl (by first | simp | rfl) rfl rfl (by simp))).mono ?_; rw [eqL_self]; rintro e w9 ⟨rfl, n9, rfl⟩)
    | (have _u := HB6; clear _u; go_at_call 24; refine (HN.out _).mono ?_; rintro e w8 ⟨v8, rfl, ho8, hb8⟩; have HO8 := hid ho8; have HB8 := hid (HB7.out.trans (hb8.mono HB7.out.size)); clear ho8 hb8)
    | (have _u := HB6; clear _u; go_at_call 23; refine (keepInts v6 _ [115, 115] [115, 115] _ (HO6.out.below (by (repeat (first | exact Below.refl _ _ | exact below_drewN _ | refine Below.drew ?_ | refine Below.alloc ?_ (by simp) _ | refine Below.setCell ?_ (by simp) _ | refine below_drewN' ?_ _)))) (lit_sl (by first | simp | rfl) rfl rfl (by simp))).mono ?_; rw [eqL_self]; rintro e w7 ⟨rfl, n7, rfl⟩; have HB7 := hid (below_drewN' (HB6.out.alloc HB6.out.size (.cells #[.int .i64 115, .int .i64 115] 3)) n7))
    | (go_at_call 28; refine (HF.out _).mono ?_; rintro e w6 ⟨v6, rfl, ho6, hb6⟩; have HO6 := hid ho6; have HB6 := hid (HB5.out.trans (hb6.mono HB5.out.size)); clear ho6 hb6)
    | (have _u := HB4; clear _u; go_at_call 19; refine (HS2.out _).mono ?_; rintro e w5 ⟨rfl, hb5⟩; have HB5 := hid (HB4.out.trans (hb5.mono HB4.out.size)); clear hb5)
    | (go_at_call 19; refine (HS1.out _).mono ?_; rintro e w4 ⟨rfl, hb4⟩; have HB4 := hid (HB3.out.trans (hb4.mono HB3.out.size)); clear hb4)
    | (go_at_call 13; refine (HC.out _).mono ?_; rintro e w3 ⟨rfl, hb3⟩; have HB3 := hid (HB2.out.trans (hb3.mono HB2.out.size)); clear hb3)
    | (have _u := HB1; clear _u; go_at_call 9; refine (HP2.out _).mono ?_; rintro e w2 ⟨rfl, hb2⟩; have HB2 := hid (HB1.out.trans (hb2.mono HB1.out.size)); clear hb2)
    | (go_at_call 9; refine (HP1.out _).mono ?_; rintro e w1 ⟨rfl, hb1⟩; have HB1 := hid hb1; clear hb1))
  go_ret
  exact ⟨rfl, below_drewN' (HB8.out.alloc HB8.out.size _) _⟩
end Go.Proofs.Ytpdcmfnemfopjaa
