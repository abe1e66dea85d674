/- All five functions of package oid answer what the document says: the walk of the statement. For every input. -/
import Derived.Test.YtihbgpgiladfkaaDoorOidWakes
import Derived.Test.YtihbgpgiladfkaaDoorRefOid2
import Derived.Test.YtihbgpgiladfkaaDoorRefOid3
import Derived.Test.YtihbgpgiladfkaaDoorRefOid4
import Derived.Test.YtihbgpgiladfkaaDoorRefOid5
import Derived.Deep.Cut
namespace Go.Proofs.YtihbgpgiladfkaaDoor
open Go.RowKit

theorem ok_all {l : List Int} (h : oidOk l = true) : (∀ x ∈ l, 0 ≤ x ∧ x ≤ maxN) ∧ l ≠ [] ∧ l.length ≤ 40 := by
  match l, h with
  | [], h => simp [oidOk] at h
  | [_], h => simp [oidOk] at h
  | a :: b :: r, h =>
    obtain ⟨⟨h1, h2, h3, h4, h5, h6⟩, h7⟩ := (oidOk_iff a b r).1 h
    refine ⟨fun x hx => ?_, by simp, by simp; omega⟩
    unfold maxN at h6 ⊢
    rcases List.mem_cons.1 hx with rfl | hx
    · omega
    rcases List.mem_cons.1 hx with rfl | hx
    · omega
    have := h7 x hx
    unfold maxN at this
    exact this
theorem err_some {o : Option (List Int)} : (errO o = 0 ∧ o.isSome = true) ∨ (errO o = 8 ∧ o.isSome = false) := by
  cases o
  · exact .inr ⟨rfl, rfl⟩
  · exact .inl ⟨rfl, rfl⟩

set_option maxRecDepth 100000 in
set_option maxHeartbeats 8000000 in
theorem walkOidExact (v1 : Value) (xs1 : List Int) (v2 : Value) (xs2 : List Int) (s : ByteArray) (w : World) (h1 : Sl .i64 w v1 xs1) (hi : I64 xs1) (h2 : Sl .u8 w v2 xs2) (hu : U8 xs2) (_hz : (s.size : Int) ≤ 9223372036854775807) (ht : Tab w) (hm : MaxL w) :
    Calls Tryd.prog 3 #[v1, v2, .string s] w fun e w' => e = .returned (.bool true) ∧ Below w.heap.size w w' := by
  have H1 := hid h1
  have H2 := hid h2
  have m1 := h1.len
  have m2 := h2.len
  obtain ⟨a1, c1, e1⟩ := h1.form
  obtain ⟨a2, c2, e2⟩ := h2.form
  subst e1 e2
  clear h1 h2
  by_cases hbig : 100 < xs1.length ∨ 500 < xs2.length ∨ 900 < s.size
  · clear H1 H2 hi hu
    generalize xs1.length = k1 at hbig m1 ⊢
    generalize xs2.length = k2 at hbig m2 ⊢
    rcases hbig with hb | hb | hb
    all_goals
      go_enter Tryd.func3, Tryd.ntmps3
      go_wp2_with (fail)
      all_goals
        go_ret
        exact ⟨rfl, Below.refl _ _⟩
  · have l1 : xs1.length ≤ 100 := by omega
    have l2 : xs2.length ≤ 500 := by omega
    have l3 : s.size ≤ 900 := by omega
    clear hbig m1 m2
    go_enter Tryd.func3, Tryd.ntmps3
    go_upto_region 10 with (first
      | (go_at_call 7; go_loud (refine (keepTwinInts _ xs1 _ H1.out (by omega)).mono ?_; rintro e w3 ⟨v3, rfl, ho3, hb3⟩; have HO3 := hid ho3; have HB3 := hid hb3; clear ho3 hb3))
      | (go_at_call 8; go_loud (refine (oidContent _ xs1 _ HO3.out.sl hi).mono ?_; rintro e w4 ⟨v4, rfl, ho4, hb4⟩; have HO4 := hid ho4; have HB4 := hid (HB3.out.trans (hb4.mono HB3.out.size)); have HI4 := hid (HO3.out.sl.below hb4); clear ho4 hb4))
      | (go_at_call 9; go_loud (refine (oidText _ xs1 _ HI4.out hi (ht.below HB4.out)).mono ?_; rintro e w5 ⟨rfl, hb5⟩; have HO5 := hid (HO4.out.sl.below hb5); have HI5 := hid (HI4.out.below hb5); have HB5 := hid (HB4.out.trans (hb5.mono HB4.out.size)); clear hb5))
      | (go_at_call 10; go_loud (refine (oidRead _ xs2 _ (H2.out.below HB5.out) hu (by omega)).mono ?_; rintro e w6 ⟨v6, rfl, ho6, hb6⟩; have HR6 := hid ho6.sl; have HO6 := hid (HO5.out.below hb6); have HI6 := hid (HI5.out.below hb6); have HB6 := hid (HB5.out.trans (hb6.mono HB5.out.size)); clear hb6 ho6))
      | (go_at_call 11; go_loud (refine (oidParse s _ (hm.below HB6.out) (by omega)).mono ?_; rintro e w7 ⟨v7, rfl, ho7, hb7⟩; have HP7 := hid ho7.sl; have HR7 := hid (HR6.out.below hb7); have HO7 := hid (HO6.out.below hb7); have HI7 := hid (HI6.out.below hb7); have HB7 := hid (HB6.out.trans (hb7.mono HB6.out.size)); clear hb7 ho7))
      | (go_at_call 12; go_loud (refine (refReadOid _ xs2 _ (H2.out.below HB7.out) hu (by omega)).mono ?_; rintro e w8 ⟨v8, rfl, ho8, hb8⟩; have HX8 := hid ho8.sl; have HP8 := hid (HP7.out.below hb8); have HR8 := hid (HR7.out.below hb8); have HO8 := hid (HO7.out.below hb8); have HI8 := hid (HI7.out.below hb8); have HB8 := hid (HB7.out.trans (hb8.mono HB7.out.size)); clear hb8 ho8))
      | (go_at_call 13; go_loud (refine (refParseOid s _ (by omega)).mono ?_; rintro e w9 ⟨v9, rfl, ho9, hb9⟩; have HY9 := hid ho9.sl; have HX9 := hid (HX8.out.below hb9); have HP9 := hid (HP8.out.below hb9); have HR9 := hid (HR8.out.below hb9); have HO9 := hid (HO8.out.below hb9); have HI9 := hid (HI8.out.below hb9); have HB9 := hid (HB8.out.trans (hb9.mono HB8.out.size)); clear hb9 ho9)))
    have hRp := err_some (o := readS xs2)
    have hPp := err_some (o := parseS (sx s))
    generalize errO (readS xs2) = gr at hRp ⊢
    generalize (readS xs2).isSome = br at hRp ⊢
    generalize errO (parseS (sx s)) = gp at hPp ⊢
    generalize (parseS (sx s)).isSome = bp at hPp ⊢
    generalize (readS xs2).getD [] = RL at HR9 HX9
    generalize (parseS (sx s)).getD [] = PL at HP9 HY9
    clear HX8 HP8 HR8 HO8 HI8 HB8 HP7 HR7 HO7 HI7 HB7 HR6 HO6 HI6 HB6 HO5 HI5 HB5 HI4 HO4 HB4 HO3 HB3 H2 l1 l2 l3
    have t1 : True := trivial
    have t2 : True := trivial
    cases hok : oidOk xs1 with
    | false =>
      have hcx : contX xs1 = [] := by unfold contX; rw [if_neg (by rw [hok]; simp)]
      have htx : textX xs1 = [] := by unfold textX; rw [if_neg (by rw [hok]; simp)]
      have hck := chk_bad hok
      have hs0 : (strOf ([] : List Int)).size = 0 := rfl
      rw [hcx] at HO9
      rw [htx, hck]
      have HOK := hid hok
      have HCK := hid hck
      clear hcx htx hck hok
      obtain ⟨a4, c4, e4⟩ := HO9.out.form
      subst e4
      rcases hRp with ⟨rfl, rfl⟩ | ⟨rfl, rfl⟩ <;> rcases hPp with ⟨rfl, rfl⟩ | ⟨rfl, rfl⟩
      all_goals
        go_wp2_with (first
        | (go_at_call 14; have _t := t1; clear t1; refine (keepInts _ _ RL RL w9 HR9.out HX9.out).mono ?_; rw [eqL_self]; rintro e w10 ⟨rfl, n10, rfl⟩)
        | (go_at_call 14; have _t := t2; clear t2; refine (keepInts _ _ PL PL (w9.drewN n10) HP9.out HY9.out).mono ?_; rw [eqL_self]; rintro e w11 ⟨rfl, n11, rfl⟩)
        | (go_at_call 14; go_loud (refine (keepInts _ _ xs1 xs1 (w9.drewN (n10 + n11)) HI9.out ((H1.out.below HB9.out).drewN (n10 + n11))).mono ?_; rw [eqL_self]; rintro e w12 ⟨rfl, n12, rfl⟩; have HD := hid (below_drewN' (below_drewN' HB9.out (n10 + n11)) n12); have HID := hid (show Sl .i64 ((w9.drewN (n10 + n11)).drewN n12) _ _ from HI9.out); have HOD := hid (show Sl .u8 ((w9.drewN (n10 + n11)).drewN n12) _ _ from HO9.out); generalize (w9.drewN (n10 + n11)).drewN n12 = wD at HD HID HOD ⊢))
        | (go_at_call 15; go_loud (refine (refOid _ xs1 wD (H1.out.below HD.out) hi).mono ?_; rw [HOK.out]; rintro e w13 ⟨rfl, rfl⟩))
        | (go_at_call 16; go_loud (refine (oidCheck _ xs1 wD HID.out hi).mono ?_; rw [HCK.out]; rintro e w14 ⟨rfl, n14, rfl⟩; have HD2 := hid (below_drewN' HD.out n14)))
        | (go_at_call 17; go_loud (refine (lawWakes _ (ht.below HD2.out) (hm.below HD2.out)).mono ?_; rintro e w20 ⟨rfl, hb20⟩; have HZ := hid (HD2.out.trans (hb20.mono HD2.out.size)); clear hb20)))
        go_ret
        exact ⟨rfl, HZ.out⟩
    | true =>
      have hcx : contX xs1 = contentS xs1 := by unfold contX; rw [if_pos hok]
      have htx : textX xs1 = textS xs1 := by unfold textX; rw [if_pos hok]
      have hck := chk_ok hok
      obtain ⟨hall, hne, hl40⟩ := ok_all hok
      rw [hcx] at HO9
      rw [htx, hck]
      have HOK := hid hok
      have HCK := hid hck
      have HALL := hid hall
      have HNE := hid hne
      clear hcx htx hck hok hall hne
      rcases hRp with ⟨rfl, rfl⟩ | ⟨rfl, rfl⟩ <;> rcases hPp with ⟨rfl, rfl⟩ | ⟨rfl, rfl⟩
      all_goals
        go_wp2_with (first
        | (go_at_call 14; have _t := t1; clear t1; refine (keepInts _ _ RL RL w9 HR9.out HX9.out).mono ?_; rw [eqL_self]; rintro e w10 ⟨rfl, n10, rfl⟩)
        | (go_at_call 14; have _t := t2; clear t2; refine (keepInts _ _ PL PL (w9.drewN n10) HP9.out HY9.out).mono ?_; rw [eqL_self]; rintro e w11 ⟨rfl, n11, rfl⟩)
        | (go_at_call 14; go_loud (refine (keepInts _ _ xs1 xs1 (w9.drewN (n10 + n11)) HI9.out ((H1.out.below HB9.out).drewN (n10 + n11))).mono ?_; rw [eqL_self]; rintro e w12 ⟨rfl, n12, rfl⟩; have HD := hid (below_drewN' (below_drewN' HB9.out (n10 + n11)) n12); have HID := hid (show Sl .i64 ((w9.drewN (n10 + n11)).drewN n12) _ _ from HI9.out); have HOD := hid (show Sl .u8 ((w9.drewN (n10 + n11)).drewN n12) _ _ from HO9.out); generalize (w9.drewN (n10 + n11)).drewN n12 = wD at HD HID HOD ⊢))
        | (go_at_call 15; go_loud (refine (refOid _ xs1 wD (H1.out.below HD.out) hi).mono ?_; rw [HOK.out]; rintro e w13 ⟨rfl, rfl⟩))
        | (go_at_call 16; go_loud (refine (oidCheck _ xs1 wD HID.out hi).mono ?_; rw [HCK.out]; rintro e w14 ⟨rfl, n14, rfl⟩; have HD2 := hid (below_drewN' HD.out n14)))
        | (go_at_call 19; go_loud (refine (refContent _ xs1 _ (H1.out.below HD2.out) HOK.out).mono ?_; rintro e w15 ⟨v15, rfl, ho15, hb15⟩; have HC15 := hid ho15.sl; have HB15 := hid (HD2.out.trans (hb15.mono HD2.out.size)); have HO15 := hid ((HOD.out.drewN n14).below hb15); clear ho15 hb15))
        | (go_at_call 18; go_loud (refine (keepBytes _ _ (contentS xs1) (contentS xs1) _ HO15.out HC15.out).mono ?_; rw [eqL_self]; rintro e w16 ⟨rfl, n16, rfl⟩; have HB16 := hid (below_drewN' HB15.out n16)))
        | (go_at_call 20; go_loud (refine (refOidText _ xs1 _ (H1.out.below HB16.out) HNE.out HALL.out hl40).mono ?_; rintro e w17 ⟨rfl, hb17⟩; have HB17 := hid (HB16.out.trans (hb17.mono HB16.out.size)); clear hb17))
        | (go_at_call 17; go_loud (refine (lawWakes _ (ht.below HB17.out) (hm.below HB17.out)).mono ?_; rintro e w20 ⟨rfl, hb20⟩; have HZ := hid (HB17.out.trans (hb20.mono HB17.out.size)); clear hb20)))
        go_ret
        exact ⟨rfl, HZ.out⟩
end Go.Proofs.YtihbgpgiladfkaaDoor
