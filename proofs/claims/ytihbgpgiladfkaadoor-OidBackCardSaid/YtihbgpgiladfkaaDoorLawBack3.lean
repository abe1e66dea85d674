/- What is written is read, what is read is written to the same: the walk of the statement. For every input. -/
import Derived.Test.YtihbgpgiladfkaaDoorLawEdges
import Derived.Deep.Cut
import Derived.Deep.DeepCutAuto
namespace Go.Proofs.YtihbgpgiladfkaaDoor
open Go.RowKit

theorem text_parse {l : List Int} (h : oidOk l = true) : parseS (sx (strOf (textS l))) = some l := by
  rw [sx_strOf (textS_u8 l)]
  exact parse_back l h
theorem text_small {l : List Int} (h : oidOk l = true) : (strOf (textS l)).size ≤ 1000000 := by
  obtain ⟨hall, hne⟩ := oid_all h
  have hl : l.length ≤ 40 := by
    refine Nat.le_of_not_lt fun hh => ?_
    have := chk_long hh
    rw [chk_ok h] at this
    cases this
  rw [strOf_len]
  have := textS_len l (by assumption)
  omega

set_option maxRecDepth 100000 in
set_option maxHeartbeats 8000000 in
theorem walkOidBack (v1 : Value) (xs1 : List Int) (v2 : Value) (xs2 : List Int) (s : ByteArray) (w : World) (h1 : Sl .i64 w v1 xs1) (hi : I64 xs1) (h2 : Sl .u8 w v2 xs2) (hu : U8 xs2) (_hz : (s.size : Int) ≤ 9223372036854775807) (ht : Tab w) (hm : MaxL w) :
    Calls Tryd.prog 4 #[v1, v2, .string s] w fun e w' => e = .returned (.bool true) ∧ Below w.heap.size w w' := by
  have H1 := hid h1
  have H2 := hid h2
  have m1 := h1.len
  have m2 := h2.len
  obtain ⟨a1, c1, e1⟩ := h1.form
  obtain ⟨a2, c2, e2⟩ := h2.form
  subst e1 e2
  clear h1 h2
  by_cases hbig : 100 < xs1.length ∨ 500 < xs2.length ∨ 900 < s.size
  · clear H1 H2 hi hu
    generalize xs1.length = k1 at hbig m1 ⊢
    generalize xs2.length = k2 at hbig m2 ⊢
    rcases hbig with hb | hb | hb
    all_goals
      go_enter Tryd.func4, Tryd.ntmps4
      go_wp2_with (fail)
      all_goals
        go_ret
        exact ⟨rfl, Below.refl _ _⟩
  · have l1 : xs1.length ≤ 100 := by omega
    have l2 : xs2.length ≤ 500 := by omega
    have l3 : s.size ≤ 900 := by omega
    have hsl := sx_len s
    have hsu := sx_u8 s
    have HSL := hid hsl
    have HSU := hid hsu
    clear hbig m1 m2 hsl hsu
    go_enter Tryd.func4, Tryd.ntmps4
    go_upto_if 38 with (first
      | (go_at_call 16; go_loud (refine (oidCheck _ xs1 _ H1.out hi).mono ?_; rintro e w3 ⟨rfl, n3, rfl⟩)))
    have HB1 := hid (below_drewN n3 : Below w.heap.size w (w.drewN n3))
    generalize w.drewN n3 = w1 at HB1 ⊢
    go_cut [] from 23 (fun wx => Hid (Below w.heap.size w wx))
    case first =>
      cases hok : oidOk xs1 with
      | false =>
        have hc : (chk xs1 == 0) = false := by rw [chk_bad hok]; rfl
        clear hok
        go_wp2_with (fail)
        go_meet
        case rel => exact HB1.out
      | true =>
        have hc : (chk xs1 == 0) = true := by rw [chk_ok hok]; rfl
        have HOK := hid hok
        have HCX : Hid (contX xs1 = contentS xs1) := hid (by unfold contX; rw [if_pos hok])
        have HTX : Hid (textX xs1 = textS xs1) := hid (by unfold textX; rw [if_pos hok])
        have HCK := hid (chk_ok hok)
        have HLN := hid (cont_len hok)
        clear hok
        have t1 : True := trivial
        go_wp2_with (first
          | (go_at_call 8; go_loud (refine (oidContent _ xs1 w1 (H1.out.below HB1.out) hi).mono ?_; rw [HCX.out, HCK.out]; rintro e w4 ⟨v4, rfl, ho4, hb4⟩; have HO4 := hid ho4.sl; have HB4 := hid (HB1.out.trans (hb4.mono HB1.out.size)); clear ho4 hb4))
          | (go_at_call 9; go_loud (refine (oidText _ xs1 w4 (H1.out.below HB4.out) hi (ht.below HB4.out)).mono ?_; rw [HTX.out, HCK.out]; rintro e w5 ⟨rfl, hb5⟩; have HO5 := hid (HO4.out.below hb5); have HB5 := hid (HB4.out.trans (hb5.mono HB4.out.size)); clear hb5))
          | (go_at_call 10; go_loud (refine (oidRead _ (contentS xs1) w5 HO5.out (cont_u8 HOK.out) (Nat.le_trans HLN.out.2 (by omega))).mono ?_; rw [read_back xs1 HOK.out, show errO (some xs1) = 0 from rfl]; rintro e w6 ⟨v6, rfl, ho6, hb6⟩; have HR6 := hid ho6.sl; have HB6 := hid (HB5.out.trans (hb6.mono HB5.out.size)); clear hb6 ho6))
          | (go_at_call 11; go_loud (refine (oidParse (strOf (textS xs1)) w6 (hm.below HB6.out) (text_small HOK.out)).mono ?_; rw [text_parse HOK.out, show errO (some xs1) = 0 from rfl]; rintro e w7 ⟨v7, rfl, ho7, hb7⟩; have HP7 := hid ho7.sl; have HR7 := hid (HR6.out.below hb7); have HB7 := hid (HB6.out.trans (hb7.mono HB6.out.size)); clear hb7 ho7))
          | (go_at_call 14; have _t := t1; clear t1; go_loud (refine (keepInts _ _ xs1 xs1 w7 HR7.out (H1.out.below HB7.out)).mono ?_; rw [eqL_self]; rintro e w8 ⟨rfl, n8, rfl⟩))
          | (go_at_call 14; go_loud (refine (keepInts _ _ xs1 xs1 (w7.drewN n8) (show Sl .i64 w7 _ _ from HP7.out) ((H1.out.below HB7.out).drewN n8)).mono ?_; rw [eqL_self]; rintro e w9 ⟨rfl, n9, rfl⟩; have HB9 := hid (below_drewN' (below_drewN' HB7.out n8) n9))))
        go_meet
        case rel => exact HB7.out.trans (below_drewN _)
    case rest =>
      have HB2 := hid hcut.out
      clear hcut HB1
      go_upto_if 91 with (first
        | (go_at_call 10; go_loud (refine (oidRead _ xs2 wc (H2.out.below HB2.out) hu (by omega)).mono ?_; rintro e w3 ⟨v3, rfl, ho3, hb3⟩; have HR3 := hid ho3.sl; have HB3 := hid (HB2.out.trans (hb3.mono HB2.out.size)); clear hb3 ho3)))
      obtain ⟨gr, hgr⟩ : ∃ gr, errO (readS xs2) = gr := ⟨_, rfl⟩
      rw [hgr]
      have HGR := hid hgr
      clear hgr
      go_cut [] from 23 (fun wx => Hid (Below w.heap.size w wx))
      case first =>
        cases hr : readS xs2 with
        | none =>
          have hc : (gr == 0) = false := by rw [← HGR.out, hr]; rfl
          go_wp2_with (fail)
          go_meet
          case rel => exact HB3.out
        | some l =>
          obtain ⟨hok, hcs⟩ := read_only xs2 l hu hr
          have hc : (gr == 0) = true := by rw [← HGR.out, hr]; rfl
          have HCX : Hid (contX l = xs2) := hid (by unfold contX; rw [if_pos hok, hcs])
          have HCK := hid (chk_ok hok)
          have HI := hid (ok_i64 hok)
          rw [hr] at HR3
          clear hok hcs hr
          go_wp2_with (first
            | (go_at_call 8; go_loud (refine (oidContent _ l w3 HR3.out HI.out).mono ?_; rw [HCX.out, HCK.out]; rintro e w4 ⟨v4, rfl, ho4, hb4⟩; have HO4 := hid ho4.sl; have HB4 := hid (HB3.out.trans (hb4.mono HB3.out.size)); clear ho4 hb4))
            | (go_at_call 18; go_loud (refine (keepBytes _ _ xs2 xs2 w4 HO4.out (H2.out.below HB4.out)).mono ?_; rw [eqL_self]; rintro e w5 ⟨rfl, n5, rfl⟩)))
          go_meet
          case rel => exact below_drewN' HB4.out _
      case rest =>
        have HB4 := hid hcut.out
        clear hcut HB2
        go_upto_if 111 with (first
          | (go_at_call 11; go_loud (refine (oidParse s _ (hm.below HB4.out) (by omega)).mono ?_; rintro e w5 ⟨v5, rfl, ho5, hb5⟩; have HP5 := hid ho5.sl; have HB5 := hid (HB4.out.trans (hb5.mono HB4.out.size)); clear hb5 ho5)))
        obtain ⟨gp, hgp⟩ : ∃ gp, errO (parseS (sx s)) = gp := ⟨_, rfl⟩
        rw [hgp]
        have HGP := hid hgp
        clear hgp
        go_cut [] from 23 (fun wx => Hid (Below w.heap.size w wx))
        case first =>
          cases hr : parseS (sx s) with
          | none =>
            have hc : (gp == 0) = false := by rw [← HGP.out, hr]; rfl
            go_wp2_with (fail)
            go_meet
            case rel => exact HB5.out
          | some l =>
            obtain ⟨hok, hts⟩ := parse_only (sx s) l hr
            have hc : (gp == 0) = true := by rw [← HGP.out, hr]; rfl
            have HTX : Hid (strOf (textX l) = s) := hid (by unfold textX; rw [if_pos hok, hts, strOf_sx])
            have HCK := hid (chk_ok hok)
            have HI := hid (ok_i64 hok)
            rw [hr] at HP5
            clear hok hts hr
            go_wp2_with (first
              | (go_at_call 9; go_loud (refine (oidText _ l w5 HP5.out HI.out (ht.below HB5.out)).mono ?_; rw [HTX.out, HCK.out]; rintro e w6 ⟨rfl, hb6⟩; have HB6 := hid (HB5.out.trans (hb6.mono HB5.out.size)); clear hb6)))
            go_meet
            case rel => exact HB6.out
        case rest =>
          have HB6 := hid hcut.out
          clear hcut
          go_wp2_with (first
            | (go_at_call 17; go_loud (refine (lawWakes _ (ht.below HB6.out) (hm.below HB6.out)).mono ?_; rintro e w20 ⟨rfl, hb20⟩; have HZ := hid (HB6.out.trans (hb20.mono HB6.out.size)); clear hb20)))
          go_ret
          exact ⟨rfl, HZ.out⟩
end Go.Proofs.YtihbgpgiladfkaaDoor
