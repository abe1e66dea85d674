/- Walk of law06's UcdExact: all that is known of any two numbers is what the document's tables say. -/
import Derived.Test.YtpdcmfnemfopjaaUcdWakes
import Derived.Test.YtpdcmfnemfopjaaRef6c
import Derived.Test.YtpdcmfnemfopjaaRef6d
namespace Go.Proofs.Ytpdcmfnemfopjaa
open Go.RowKit

set_option maxHeartbeats 8000000 in
set_option maxRecDepth 8000 in
theorem walkExact6 (c b : Int) (w : World) :
    Calls Try.prog 3 #[.int .i64 c, .int .i64 b] w fun e w' => e = .returned (.bool true) ∧ Below w.heap.size w w' := by
  have HP := hid (fun w => ucdPair c b w)
  have HQ := hid (fun B w h => refTPair B c b w h)
  obtain ⟨R, hR⟩ : ∃ R, R = pairS c b := ⟨_, rfl⟩
  rw [← hR] at HP HQ
  obtain ⟨pm, pb⟩ := R
  simp only at HP HQ
  clear hR
  have HS := hid (fun w => ucdScalar c w)
  have HS' := hid (fun w => refScalar6 c w)
  obtain ⟨bs, hbs⟩ : ∃ x, x = scalarB c := ⟨_, rfl⟩
  rw [← hbs] at HS HS'
  have HC := hid (fun w => ucdClass c w)
  have HC' := hid (fun w => refClass6 c w)
  obtain ⟨nc, hnc⟩ : ∃ x, x = classS c := ⟨_, rfl⟩
  rw [← hnc] at HC HC'
  have HA := hid (fun w => ucdAssigned c w)
  have HA' := hid (fun w => refAssigned6 c w)
  obtain ⟨ba, hba⟩ : ∃ x, x = hasS tabAssigned c := ⟨_, rfl⟩
  rw [← hba] at HA HA'
  have HN := hid (fun w => ucdNothing c w)
  have HN' := hid (fun w => refNothing6 c w)
  obtain ⟨bn, hbn⟩ : ∃ x, x = hasS tabNothing c := ⟨_, rfl⟩
  rw [← hbn] at HN HN'
  have HE := hid (fun w => ucdSpace c w)
  have HE' := hid (fun w => refSpace6 c w)
  obtain ⟨be, hbe⟩ : ∃ x, x = hasS tabSpaces c := ⟨_, rfl⟩
  rw [← hbe] at HE HE'
  have HF := hid (fun w => ucdProhibited c w)
  have HF' := hid (fun w => refProhibited6 c w)
  obtain ⟨bf, hbf⟩ : ∃ x, x = hasS tabProhibited c := ⟨_, rfl⟩
  rw [← hbf] at HF HF'
  clear hbs hnc hba hbn hbe hbf
  obtain ⟨lc, hlc⟩ : ∃ x, x = canonS c := ⟨_, rfl⟩
  obtain ⟨lm, hlm⟩ : ∃ x, x = mapS tabCompat c := ⟨_, rfl⟩
  obtain ⟨lf, hlf⟩ : ∃ x, x = mapS tabFolds c := ⟨_, rfl⟩
  have HX := hid (fun w => ucdCanon c w)
  have HX' := hid (fun B w h => refTCanon B c w h)
  rw [← hlc] at HX HX'
  have HY := hid (fun w => ucdCompat c w)
  have HY' := hid (fun B w h => refTCompat B c w h)
  rw [← hlm] at HY HY'
  have HZ := hid (fun w => ucdFold c w)
  have HZ' := hid (fun B w h => refTFold B c w h)
  rw [← hlf] at HZ HZ'
  clear hlc hlm hlf
  go_enter Try.func3, Try.ntmps3
  go_wp2_with (first
    | (have _u := HK21; clear _u; go_at_call 23; refine (keepInts v20 v21 lf lf w21 (HO20.out.below HP21.out) HO21.out).mono ?_; rw [eqL_self]; rintro e w22 ⟨rfl, n22, hw22⟩; have HK22 := hid (show Below w1.heap.size w1 w22 from by rw [hw22]; exact below_drewN' HK21.out n22); clear hw22)
    | (have _u := HK18; clear _u; go_at_call 23; refine (keepInts v17 v18 lm lm w18 (HO17.out.below HP18.out) HO18.out).mono ?_; rw [eqL_self]; rintro e w19 ⟨rfl, n19, hw19⟩; have HK19 := hid (show Below w1.heap.size w1 w19 from by rw [hw19]; exact below_drewN' HK18.out n19); clear hw19)
    | (have _u := HK15; clear _u; go_at_call 23; refine (keepInts v14 v15 lc lc w15 (HO14.out.below HP15.out) HO15.out).mono ?_; rw [eqL_self]; rintro e w16 ⟨rfl, n16, hw16⟩; have HK16 := hid (show Below w1.heap.size w1 w16 from by rw [hw16]; exact below_drewN' HK15.out n16); clear hw16)
    | (go_at_call 8; refine (refAll6 _).mono ?_; rintro e w1 ⟨B, rfl, ht1, hb1⟩; have HT := hid ht1; have HB1 := hid hb1; have HK1 := hid (Below.refl w1.heap.size w1); clear ht1 hb1)
    | (go_at_call 9; refine (HP.out _).mono ?_; rintro e w2 ⟨rfl, hb2⟩; have HK2 := hid (HK1.out.trans (hb2.mono HK1.out.size)); clear hb2)
    | (go_at_call 10; refine (HQ.out B w2 (HT.out.below HK2.out)).mono ?_; rintro e w3 ⟨rfl, hb3⟩; have HK3 := hid (HK2.out.trans (hb3.mono HK2.out.size)); clear hb3)
    | (go_at_call 11; refine (HS.out _).mono ?_; rintro e wq ⟨rfl, rfl⟩)
    | (go_at_call 12; refine (HS'.out _).mono ?_; rintro e wq ⟨rfl, rfl⟩)
    | (go_at_call 13; refine (HC.out _).mono ?_; rintro e w4 ⟨rfl, hb4⟩; have HK4 := hid (HK3.out.trans (hb4.mono HK3.out.size)); clear hb4)
    | (go_at_call 14; refine (HC'.out _).mono ?_; rintro e w5 ⟨rfl, hb5⟩; have HK5 := hid (HK4.out.trans (hb5.mono HK4.out.size)); clear hb5)
    | (go_at_call 15; refine (HA.out _).mono ?_; rintro e w6 ⟨rfl, hb6⟩; have HK6 := hid (HK5.out.trans (hb6.mono HK5.out.size)); clear hb6)
    | (go_at_call 16; refine (HA'.out _).mono ?_; rintro e w7 ⟨rfl, hb7⟩; have HK7 := hid (HK6.out.trans (hb7.mono HK6.out.size)); clear hb7)
    | (go_at_call 17; refine (HN.out _).mono ?_; rintro e w8 ⟨rfl, hb8⟩; have HK8 := hid (HK7.out.trans (hb8.mono HK7.out.size)); clear hb8)
    | (go_at_call 18; refine (HN'.out _).mono ?_; rintro e w9 ⟨rfl, hb9⟩; have HK9 := hid (HK8.out.trans (hb9.mono HK8.out.size)); clear hb9)
    | (go_at_call 19; refine (HE.out _).mono ?_; rintro e w10 ⟨rfl, hb10⟩; have HK10 := hid (HK9.out.trans (hb10.mono HK9.out.size)); clear hb10)
    | (go_at_call 20; refine (HE'.out _).mono ?_; rintro e w11 ⟨rfl, hb11⟩; have HK11 := hid (HK10.out.trans (hb11.mono HK10.out.size)); clear hb11)
    | (go_at_call 21; refine (HF.out _).mono ?_; rintro e w12 ⟨rfl, hb12⟩; have HK12 := hid (HK11.out.trans (hb12.mono HK11.out.size)); clear hb12)
    | (go_at_call 22; refine (HF'.out _).mono ?_; rintro e w13 ⟨rfl, hb13⟩; have HK13 := hid (HK12.out.trans (hb13.mono HK12.out.size)); clear hb13)
    | (go_at_call 24; refine (HX.out _).mono ?_; rintro e w14 ⟨v14, rfl, ho14, hb14⟩; have HO14 := hid ho14; clear ho14; have HP14 := hid hb14; have HK14 := hid (HK13.out.trans (hb14.mono HK13.out.size)); clear hb14)
    | (go_at_call 25; refine (HX'.out B _ (HT.out.below HK14.out)).mono ?_; rintro e w15 ⟨v15, rfl, ho15, hb15⟩; have HO15 := hid ho15; clear ho15; have HP15 := hid hb15; have HK15 := hid (HK14.out.trans (hb15.mono HK14.out.size)); clear hb15)
    | (go_at_call 26; refine (HY.out _).mono ?_; rintro e w17 ⟨v17, rfl, ho17, hb17⟩; have HO17 := hid ho17; clear ho17; have HP17 := hid hb17; have HK17 := hid (HK16.out.trans (hb17.mono HK16.out.size)); clear hb17)
    | (go_at_call 27; refine (HY'.out B _ (HT.out.below HK17.out)).mono ?_; rintro e w18 ⟨v18, rfl, ho18, hb18⟩; have HO18 := hid ho18; clear ho18; have HP18 := hid hb18; have HK18 := hid (HK17.out.trans (hb18.mono HK17.out.size)); clear hb18)
    | (go_at_call 28; refine (HZ.out _).mono ?_; rintro e w20 ⟨v20, rfl, ho20, hb20⟩; have HO20 := hid ho20; clear ho20; have HP20 := hid hb20; have HK20 := hid (HK19.out.trans (hb20.mono HK19.out.size)); clear hb20)
    | (go_at_call 29; refine (HZ'.out B _ (HT.out.below HK20.out)).mono ?_; rintro e w21 ⟨v21, rfl, ho21, hb21⟩; have HO21 := hid ho21; clear ho21; have HP21 := hid hb21; have HK21 := hid (HK20.out.trans (hb21.mono HK20.out.size)); clear hb21)
    | (go_at_call 30; refine (lawWakes6 _).mono ?_; rintro e wk ⟨rfl, hbk⟩; have HWK := hid (HK22.out.trans (hbk.mono HK22.out.size)); clear hbk))
  go_ret
  exact ⟨rfl, HB1.out.trans (HWK.out.mono HB1.out.size)⟩
end Go.Proofs.Ytpdcmfnemfopjaa
