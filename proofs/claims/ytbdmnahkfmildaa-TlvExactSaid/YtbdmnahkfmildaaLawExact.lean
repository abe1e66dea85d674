/- For any bytes, header and content, Read, Bytes, One and Wrap return what the document says: the walk of the statement. For every input. -/
import Derived.Test.YtbdmnahkfmildaaRef3
import Derived.Test.YtbdmnahkfmildaaLawWraps
import Derived.Deep.Cut
namespace Go.Proofs.Ytbdmnahkfmildaa
open Go.RowKit

/-- one contract for Bytes, whether the header is one or not -/
theorem bytesAny (h : Hd) (w : World) :
    Calls Try.prog 11 #[h.val] w fun e w' => ∃ v', e = .returned (.tuple #[v', .int .i64 (if HdOk h then 0 else 1)]) ∧ Own .u8 5 w.heap.size w' v' (if HdOk h then hdB h else []) ∧ Below w.heap.size w w' := by
  by_cases hok : HdOk h
  · simp only [if_pos hok]; exact bytesOk h w hok
  · simp only [if_neg hok]
    exact (bytesBad h w hok).mono fun _ _ ⟨he, hb⟩ => ⟨_, he, Own.nil _ _ _ _, hb⟩
theorem wrapAny (h : Hd) (v : Value) (xs : List Int) (w : World) (hs : Sl .u8 w v xs) (hl : xs.length ≤ 1000000000000) :
    Calls Try.prog 14 #[h.val, v] w fun e w' => ∃ v', e = .returned (.tuple #[v', .int .i64 (if HdOk (h.upon xs.length) then 0 else 1)]) ∧ Own .u8 5 w.heap.size w' v' (if HdOk (h.upon xs.length) then hdB (h.upon xs.length) ++ xs else []) ∧ Below w.heap.size w w' := by
  by_cases hok : HdOk (h.upon xs.length)
  · simp only [if_pos hok]; exact wrapOk h v xs w hs hok hl
  · simp only [if_neg hok]
    exact (wrapBad h v xs w hs hok).mono fun _ _ ⟨he, hb⟩ => ⟨_, he, Own.nil _ _ _ _, hb⟩
theorem oneS_err {xs : List Int} (h : (oneS xs).2.2.2 ≠ 0) : oneS xs = (Hd.zero, [], [], (oneS xs).2.2.2) := by
  unfold oneS at h ⊢
  split at h
  · rename_i c; rw [if_pos c]
  · rename_i c
    rw [if_neg c]
    split at h
    · rename_i c2; rw [if_pos c2]
    · exact absurd rfl h
theorem oneS_ok {xs : List Int} (hu : U8 xs) (h : (oneS xs).2.2.2 = 0) : ∃ (c t : Int) (b : Bool) (n m : Nat), n + m ≤ xs.length ∧ oneS xs = (⟨c, t, b, m, n⟩, (xs.drop n).take m, xs.drop (n + m), 0) := by
  have hb := rd_bd xs hu
  unfold oneS at h ⊢
  split at h
  · rename_i c; exact absurd h c
  · rename_i c
    rw [if_neg c]
    split at h
    · simp at h
    · rename_i c2
      rw [if_neg c2]
      obtain ⟨⟨_, _, l0, l1⟩, s0, s1⟩ := hb (by simpa using c)
      generalize rd xs = q at *
      obtain ⟨⟨oc, t, b, l, s⟩, E⟩ := q
      dsimp only at *
      obtain ⟨n, rfl⟩ := Int.eq_ofNat_of_zero_le (show 0 ≤ s by omega)
      obtain ⟨m, rfl⟩ := Int.eq_ofNat_of_zero_le l0
      exact ⟨oc, t, b, n, m, by omega, by simp [show ((n : Int) + (m : Int)).toNat = n + m by omega]⟩

set_option maxRecDepth 100000 in
set_option maxHeartbeats 4000000 in
theorem walkExact (vb : Value) (xs : List Int) (h : Hd) (w : World) (hs : Sl .u8 w vb xs) (hu : U8 xs) :
    Calls Try.prog 3 #[vb, h.val] w fun e w' => e = .returned (.bool true) ∧ Below w.heap.size w w' := by
  have HS := hid hs
  have hlx := hs.len
  have HVB : Hid (∃ a cap, vb = .slice a xs.length cap) := by obtain ⟨a, cap, h, _⟩ := hs; exact ⟨a, cap, h⟩
  by_cases h7 : 700 < xs.length
  · obtain ⟨a, cap, rfl⟩ := HVB.out
    obtain ⟨cls, tag, cons, len, size⟩ := h
    unfold Hd.val
    dsimp only
    go_enter Try.func3, Try.ntmps3
    go_wp2
    go_ret
    exact ⟨rfl, by (repeat (first | exact Below.refl _ _ | exact below_drewN _ | refine Below.drew ?_ | refine Below.alloc ?_ (by simp) _ | refine Below.setCell ?_ (by simp) _ | refine below_drewN' ?_ _))⟩
  have HBy := hid (fun W => bytesAny h W)
  have HWr := hid (fun v W hW => wrapAny h v xs W hW (by omega))
  obtain ⟨⟨xc, xt, xb, xl, xz⟩, E, hrd⟩ : ∃ h E, rd xs = (h, E) := ⟨_, _, rfl⟩
  have HX := hid hrd
  clear hrd
  obtain ⟨cls, tag, cons, len, size⟩ := h
  unfold Hd.val at HBy HWr ⊢
  dsimp only at HBy HWr ⊢
  obtain ⟨EB, hEB⟩ : ∃ EB : Int, EB = (if HdOk ⟨cls, tag, cons, len, size⟩ then 0 else 1) := ⟨_, rfl⟩
  obtain ⟨zs, hzs⟩ : ∃ zs : List Int, zs = (if HdOk ⟨cls, tag, cons, len, size⟩ then hdB ⟨cls, tag, cons, len, size⟩ else []) := ⟨_, rfl⟩
  rw [← hEB, ← hzs] at HBy
  unfold Hd.upon at HWr
  dsimp only at HWr
  obtain ⟨EW, hEW⟩ : ∃ EW : Int, EW = (if HdOk ⟨cls, tag, cons, xs.length, size⟩ then 0 else 1) := ⟨_, rfl⟩
  obtain ⟨ws, hws⟩ : ∃ ws : List Int, ws = (if HdOk ⟨cls, tag, cons, xs.length, size⟩ then hdB ⟨cls, tag, cons, xs.length, size⟩ ++ xs else []) := ⟨_, rfl⟩
  rw [← hEW, ← hws] at HWr
  have HEB := hid hEB
  have HZS := hid hzs
  have HEW := hid hEW
  have HWS := hid hws
  clear hEB hzs hEW hws
  by_cases hI : (oneS xs).2.2.2 = 0
  · obtain ⟨oc, ot, ob, n, m, hnm, hos⟩ := oneS_ok hu hI
    have HOn := hid (fun v W hW => tlvOne' v xs W hW hu (by omega) hos)
    have hor : oneR xs = (⟨oc, ot, ob, m, n⟩, (n : Int) + m, 0) := by unfold oneR; rw [if_pos hI, hos]
    have HRo := hid (fun W hW => refOne vb xs W hW hu)
    rw [hor] at HRo
    unfold Hd.val at HRo
    dsimp only at HRo
    have HOS := hid hos
    clear hos hor hI
    obtain ⟨a, cap, hvb⟩ := HVB.out
    obtain ⟨vcut, hc1, hc2, hcs⟩ := cut_all (P := Try.prog) w 22 5 Try.underlying22 Try.infoU8 .u8 _ xs HS.out (some (.int .i64 (n : Int))) (some (.int .i64 ((n : Int) + m))) n (n + m) (.inr ⟨_, rfl⟩) (.inr ⟨_, rfl⟩) (by omega) (by omega)
    obtain ⟨vrut, hr1, hr2, hrs⟩ := cut_all (P := Try.prog) w 22 5 Try.underlying22 Try.infoU8 .u8 _ xs HS.out (some (.int .i64 ((n : Int) + m))) none (n + m) xs.length (.inr ⟨_, rfl⟩) (.inl ⟨rfl, rfl⟩) (by omega) (by omega)
    have HCS := hid (show ∀ W, Sl .u8 W vb xs → Sl .u8 W vcut ((xs.drop n).take m) from fun W hW => by have := hcs W hW; rwa [Nat.add_sub_cancel_left] at this)
    have HRS := hid (show ∀ W, Sl .u8 W vb xs → Sl .u8 W vrut (xs.drop (n + m)) from fun W hW => by have := hrs W hW; rwa [List.take_of_length_le (by simp)] at this)
    clear hcs hrs
    subst hvb
    go_enter Try.func3, Try.ntmps3
    go_upto_region 10 with (first
      | (go_at_call 8; refine (keepTwin (.slice a xs.length cap) xs _ (HS.out.below (by (repeat (first | exact Below.refl _ _ | exact below_drewN _ | refine Below.drew ?_ | refine Below.alloc ?_ (by simp) _ | refine Below.setCell ?_ (by simp) _ | refine below_drewN' ?_ _)))) (by omega)).mono ?_; rintro e w1 ⟨vc, rfl, ho1, hb1⟩; have HC1 := hid ho1; have HH1 := hid (Box.below (Box.made w 24 [.int .i64 cls, .int .i64 tag, .bool cons, .int .i64 len, .int .i64 size]) hb1 (by simp)); have HB1 := hid (Below.trans (show Below w.heap.size w _ by (repeat (first | exact Below.refl _ _ | exact below_drewN _ | refine Below.drew ?_ | refine Below.alloc ?_ (by simp) _ | refine Below.setCell ?_ (by simp) _ | refine below_drewN' ?_ _))) (hb1.mono (by simp))); have hz1 := hb1.size; simp at hz1; clear ho1 hb1)
      | (go_at_call 9; refine (readHead' vc xs _ HC1.out.sl hu HX.out).mono ?_; rintro e w2 ⟨rfl, hb2⟩; have HC2 := hid (HC1.out.below hb2); have HH2 := hid (HH1.out.below hb2 HH1.out.lt); have HB2 := hid (HB1.out.trans (hb2.mono (by omega))); have hz2 := hb2.size; clear hb2)
      | (go_at_call 10; refine (refRead' (.slice a xs.length cap) xs _ (HS.out.below (HB2.out.trans (by (repeat (first | exact Below.refl _ _ | exact below_drewN _ | refine Below.drew ?_ | refine Below.alloc ?_ (by simp; omega) _ | refine Below.alloc ?_ (by omega) _ | refine Below.setCell ?_ (by simp; omega) _ | refine below_drewN' ?_ _))))) hu HX.out).mono ?_; rintro e w3 ⟨rfl, hb3⟩; have hbb := hid (Below.trans (show Below w2.heap.size w2 _ by (repeat (first | exact Below.refl _ _ | exact below_drewN _ | refine Below.drew ?_ | refine Below.alloc ?_ (by simp) _ | refine Below.setCell ?_ (by simp) _ | refine below_drewN' ?_ _))) (hb3.mono (by simp))); have HC3 := hid (HC2.out.below hbb.out); have HH3 := hid (HH2.out.below hbb.out HH2.out.lt); have HXx3 := hid (Box.below (Box.made w2 24 [.int .i64 xc, .int .i64 xt, .bool xb, .int .i64 xl, .int .i64 xz]) hb3 (by simp)); have HB3 := hid (HB2.out.trans (hbb.out.mono (by omega))); have hz3 := hb3.size; simp at hz3; obtain ⟨k0, k1, k2, k3, k4⟩ := HH3.out.five; have hl3 := HH3.out.lt; clear hb3 hbb)
      | (go_at_call 11; refine (HBy.out _).mono ?_; rintro e w4 ⟨vz, rfl, ho4, hb4⟩; have hbb := hid (Below.trans (show Below w3.heap.size w3 _ by (repeat (first | exact Below.refl _ _ | exact below_drewN _ | refine Below.drew ?_ | refine Below.alloc ?_ (by simp) _ | refine Below.setCell ?_ (by simp) _ | refine below_drewN' ?_ _))) (hb4.mono (by simp))); have HZ4 := hid ho4; have HC4 := hid (HC3.out.below hbb.out); have HH4 := hid (HH3.out.below hbb.out HH3.out.lt); have HXx4 := hid (HXx3.out.below hbb.out HXx3.out.lt); have HXy4 := hid (Box.below (Box.made w3 24 [.int .i64 xc, .int .i64 xt, .bool xb, .int .i64 xl, .int .i64 xz]) hb4 (by simp)); have HB4 := hid (HB3.out.trans (hbb.out.mono (by omega))); have hz4 := hb4.size; simp at hz4; clear ho4 hb4 hbb k0 k1 k2 k3 k4)
      | (go_at_call 12; refine (HOn.out vc _ HC4.out.sl).mono ?_; rintro e w5 ⟨vo, vr, rfl, ho5, hp5, hb5⟩; have HO5 := hid ho5; have HR5 := hid hp5; have HZ5 := hid (HZ4.out.below hb5); have HC5 := hid (HC4.out.below hb5); have HH5 := hid (HH4.out.below hb5 HH4.out.lt); have HXx5 := hid (HXx4.out.below hb5 HXx4.out.lt); have HXy5 := hid (HXy4.out.below hb5 HXy4.out.lt); have HB5 := hid (HB4.out.trans (hb5.mono (by omega))); have hz5 := hb5.size; clear ho5 hp5 hb5)
      | (go_at_call 13; refine (HRo.out _ (HS.out.below (HB5.out.trans (by (repeat (first | exact Below.refl _ _ | exact below_drewN _ | refine Below.drew ?_ | refine Below.alloc ?_ (by simp; omega) _ | refine Below.alloc ?_ (by omega) _ | refine Below.setCell ?_ (by simp; omega) _ | refine below_drewN' ?_ _)))))).mono ?_; rintro e w6 ⟨rfl, hb6⟩; have hbb := hid (Below.trans (show Below w5.heap.size w5 _ by (repeat (first | exact Below.refl _ _ | exact below_drewN _ | refine Below.drew ?_ | refine Below.alloc ?_ (by simp) _ | refine Below.setCell ?_ (by simp) _ | refine below_drewN' ?_ _))) (hb6.mono (by simp))); have HO6 := hid (HO5.out.below hbb.out); have HR6 := hid (HR5.out.below hbb.out); have HZ6 := hid (HZ5.out.below hbb.out); have HC6 := hid (HC5.out.below hbb.out); have HH6 := hid (HH5.out.below hbb.out HH5.out.lt); have HXx6 := hid (HXx5.out.below hbb.out HXx5.out.lt); have HXy6 := hid (HXy5.out.below hbb.out HXy5.out.lt); have HXo6 := hid (Box.below (Box.made w5 24 [.int .i64 oc, .int .i64 ot, .bool ob, .int .i64 (m : Int), .int .i64 (n : Int)]) hb6 (by simp)); have HB6 := hid (HB5.out.trans (hbb.out.mono (by omega))); have hz6 := hb6.size; simp at hz6; obtain ⟨k0, k1, k2, k3, k4⟩ := HH6.out.five; have hl6 := HH6.out.lt; clear hb6 hbb)
      | (go_at_call 14; refine (HWr.out vc _ ((HC6.out.alloc _).sl)).mono ?_; rintro e w7 ⟨vw, rfl, ho7, hb7⟩; have hbb := hid (Below.trans (show Below w6.heap.size w6 _ by (repeat (first | exact Below.refl _ _ | exact below_drewN _ | refine Below.drew ?_ | refine Below.alloc ?_ (by simp) _ | refine Below.setCell ?_ (by simp) _ | refine below_drewN' ?_ _))) (hb7.mono (by simp))); have HW7 := hid ho7; have HO7 := hid (HO6.out.below hbb.out); have HR7 := hid (HR6.out.below hbb.out); have HZ7 := hid (HZ6.out.below hbb.out); have HC7 := hid (HC6.out.below hbb.out); have HH7 := hid (HH6.out.below hbb.out HH6.out.lt); have HXx7 := hid (HXx6.out.below hbb.out HXx6.out.lt); have HXy7 := hid (HXy6.out.below hbb.out HXy6.out.lt); have HXo7 := hid (HXo6.out.below hbb.out HXo6.out.lt); have HXp7 := hid (Box.below (Box.made w6 24 [.int .i64 oc, .int .i64 ot, .bool ob, .int .i64 (m : Int), .int .i64 (n : Int)]) hb7 (by simp)); have HB7 := hid (HB6.out.trans (hbb.out.mono (by omega))); have hz7 := hb7.size; simp at hz7; clear ho7 hb7 hbb k0 k1 k2 k3 k4))
    obtain ⟨x0, x1, x2, x3, x4⟩ := HXx7.out.five
    obtain ⟨y0, y1, y2, y3, y4⟩ := HXy7.out.five
    obtain ⟨o0, o1, o2, o3, o4⟩ := HXo7.out.five
    obtain ⟨p0, p1, p2, p3, p4⟩ := HXp7.out.five
    obtain ⟨az, capz, haz, -, -, -⟩ := HZ7.out.sl
    obtain ⟨aw, capw, haw, -, -, -⟩ := HW7.out.sl
    subst haz haw
    have hzl : zs.length ≤ 12 := by rw [HZS.out]; split
                                    · rename_i hk; exact hdB_len hk
                                    · simp
    have hwl : ws.length ≤ 800 := by rw [HWS.out]; split
                                     · rename_i hk; have := hdB_len hk; simp; omega
                                     · simp
    clear hc1 hr1
    have tok1 : True := trivial
    go_upto_region 12 with (go_at_call 15; refine (keepBytes vc (.slice a xs.length cap) xs xs _ HC7.out.sl (HS.out.below HB7.out)).mono ?_; rw [eqL_self]; rintro e w8 ⟨rfl, n1, rfl⟩)
    clear x0 x1 x2 x3 x4 y0 y1 y2 y3 y4 o0 o1 o2 o3 o4 p0 p1 p2 p3
    obtain ⟨k0, k1, k2, k3, k4⟩ := HH7.out.five
    by_cases hk : HdOk ⟨cls, tag, cons, len, size⟩
    · by_cases hkl : HdOk ⟨cls, tag, cons, (xs.length : Int), size⟩
      · have HK := hid hk
        have HKL := hid hkl
        have hEB := HEB.out
        have hZS := HZS.out
        have hEW := HEW.out
        have hWS := HWS.out
        rw [if_pos hk] at hEB hZS
        rw [if_pos hkl] at hEW hWS
        subst hEB hEW
        have HZE := hid hZS.symm
        have HWE := hid hWS.symm
        have HHd1 := hid (fun W => refHead ⟨cls, tag, cons, len, size⟩ W)
        have HHd2 := hid (fun W => refHead ⟨cls, tag, cons, xs.length, size⟩ W)
        rw [show hdOk ⟨cls, tag, cons, len, size⟩ = true from hdOk_iff.2 hk] at HHd1
        rw [show hdOk ⟨cls, tag, cons, (xs.length : Int), size⟩ = true from hdOk_iff.2 hkl] at HHd2
        unfold Hd.val at HHd1 HHd2
        dsimp only at HHd1 HHd2
        clear hk hkl hZS hWS
        have tok2 : True := trivial
        have tok3 : True := trivial
        have tok4 : True := trivial
        have tok5 : True := trivial
        have tok6 : True := trivial
        go_wp2_with (first
          | (go_at_call 15; have _t := tok2; clear tok2; refine (keepBytes vo vcut ((xs.drop n).take m) ((xs.drop n).take m) _ (HO7.out.sl.below (by (repeat (first | exact Below.refl _ _ | exact below_drewN _ | refine Below.drew ?_ | refine Below.alloc ?_ (by simp) _ | refine Below.setCell ?_ (by simp) _ | refine below_drewN' ?_ _)))) (HCS.out _ (HS.out.below (HB7.out.trans (by (repeat (first | exact Below.refl _ _ | exact below_drewN _ | refine Below.drew ?_ | refine Below.alloc ?_ (by simp; omega) _ | refine Below.alloc ?_ (by omega) _ | refine Below.setCell ?_ (by simp; omega) _ | refine below_drewN' ?_ _))))))).mono ?_; rw [eqL_self]; rintro e w8 ⟨rfl, n2, rfl⟩)
          | (go_at_call 15; have _t := tok3; clear tok3; refine (keepBytes vr vrut (xs.drop (n + m)) (xs.drop (n + m)) _ (HR7.out.sl.below (by (repeat (first | exact Below.refl _ _ | exact below_drewN _ | refine Below.drew ?_ | refine Below.alloc ?_ (by simp) _ | refine Below.setCell ?_ (by simp) _ | refine below_drewN' ?_ _)))) (HRS.out _ (HS.out.below (HB7.out.trans (by (repeat (first | exact Below.refl _ _ | exact below_drewN _ | refine Below.drew ?_ | refine Below.alloc ?_ (by simp; omega) _ | refine Below.alloc ?_ (by omega) _ | refine Below.setCell ?_ (by simp; omega) _ | refine below_drewN' ?_ _))))))).mono ?_; rw [eqL_self]; rintro e w8 ⟨rfl, n3, rfl⟩)
          | (go_at_call 16; have _t := tok4; clear tok4; refine (HHd1.out _).mono ?_; rintro e w8 ⟨rfl, hb8⟩; have hbb := hid (Below.trans (show Below w7.heap.size w7 _ by (repeat (first | exact Below.refl _ _ | exact below_drewN _ | refine Below.drew ?_ | refine Below.alloc ?_ (by simp) _ | refine Below.setCell ?_ (by simp) _ | refine below_drewN' ?_ _))) (hb8.mono (by simp))); have HH8 := hid (HH7.out.below hbb.out HH7.out.lt); have HZ8 := hid (HZ7.out.below hbb.out); have HW8 := hid (HW7.out.below hbb.out); have HB8 := hid (HB7.out.trans (hbb.out.mono (by omega))); have hz8 := hbb.out.size; clear k0 k1 k2 k3 k4; obtain ⟨k0, k1, k2, k3, k4⟩ := HH8.out.five; obtain ⟨f0, f1, f2, f3, f4⟩ := HH8.out.ice5; have hl8 := HH8.out.lt; clear hb8 hbb)
          | (go_at_call 17; refine (refHeadBytes ⟨cls, tag, cons, len, size⟩ _ HK.out).mono ?_; rintro e w9 ⟨v9, rfl, ho9, hb9⟩; have HV9 := hid ho9; have HH9 := hid (HH8.out.below hb9 HH8.out.lt); have HZ9 := hid (HZ8.out.below hb9); have HW9 := hid (HW8.out.below hb9); have HB9 := hid (HB8.out.trans (hb9.mono (by omega))); have hz9 := hb9.size; clear k0 k1 k2 k3 k4 f0 f1 f2 f3 f4; obtain ⟨k0, k1, k2, k3, k4⟩ := HH9.out.five; obtain ⟨f0, f1, f2, f3, f4⟩ := HH9.out.ice5; have hl9 := HH9.out.lt; clear ho9 hb9)
          | (go_at_call 15; have _t := tok5; clear tok5; refine (keepBytes _ v9 zs zs _ HZ9.out.sl (HZE.out ▸ HV9.out.sl)).mono ?_; rw [eqL_self]; rintro e w8 ⟨rfl, n4, rfl⟩; have HH9 := hid (HH9.out.drewN n4); have HW9 := hid (HW9.out.drewN n4); have HB9 := hid (below_drewN' HB9.out n4))
          | (go_at_call 16; refine (HHd2.out _).mono ?_; rintro e w10 ⟨rfl, hb10⟩; have HBs := hid (HB9.out.setCell (p := ⟨w.heap.size, 3, none⟩) (Nat.le_refl _) (.int .i64 (xs.length : Int))); have HHs := hid (HH9.out.set 3 (.int .i64 (xs.length : Int))); have HWs := hid (HW9.out.set HH9.out (by decide) 3 (.int .i64 (xs.length : Int))); have HH10 := hid (Box.below (show Box 24 [.int .i64 cls, .int .i64 tag, .bool cons, .int .i64 (xs.length : Int), .int .i64 size] w.heap.size _ from HHs.out) hb10 (by first | omega | (simp [World.setCell]; omega) | (simp [World.setCell, World.drewN]; omega) | (simp; omega))); have HW10 := hid (Own.below (show Own .u8 5 _ _ _ _ from HWs.out) hb10); have HB10 := hid (Below.trans (show Below w.heap.size w _ from HBs.out.trans (by (repeat (first | exact Below.refl _ _ | exact below_drewN _ | refine Below.drew ?_ | refine Below.alloc ?_ (by simp; omega) _ | refine Below.alloc ?_ (by omega) _ | refine Below.setCell ?_ (by simp; omega) _ | refine below_drewN' ?_ _)))) (hb10.mono (by first | omega | (simp [World.setCell]; omega) | (simp [World.setCell, World.drewN]; omega) | (simp; omega)))); have hz10 := hb10.size; try simp [World.setCell] at hz10; clear k0 k1 k2 k3 k4 f0 f1 f2 f3 f4; obtain ⟨k0, k1, k2, k3, k4⟩ := HH10.out.five; have hl10 := HH10.out.lt; clear hb10)
          | (go_at_call 19; refine (refWrap cls tag cons (.slice a xs.length cap) xs _ (HS.out.below HB10.out) HKL.out (by omega)).mono ?_; rintro e w11 ⟨v11, rfl, ho11, hb11⟩; have HV11 := hid ho11; have HW11 := hid (HW10.out.below hb11); have HB11 := hid (HB10.out.trans (hb11.mono (by omega))); have hz11 := hb11.size; clear ho11 hb11)
          | (go_at_call 15; have _t := tok6; clear tok6; refine (keepBytes _ v11 ws ws _ HW11.out.sl (HWE.out ▸ HV11.out.sl)).mono ?_; rw [eqL_self]; rintro e w8 ⟨rfl, n6, rfl⟩)
          | (go_at_call 18; refine (wakesOk _).mono ?_; rintro e w12 ⟨rfl, hb12⟩; have HB12 := hid (Below.trans (HB11.out.trans (by (repeat (first | exact Below.refl _ _ | exact below_drewN _ | refine Below.drew ?_ | refine Below.alloc ?_ (by simp; omega) _ | refine Below.alloc ?_ (by omega) _ | refine Below.setCell ?_ (by simp; omega) _ | refine below_drewN' ?_ _)))) (hb12.mono (by first | omega | (simp; omega) | simp)))))
        go_ret
        exact ⟨rfl, HB12.out⟩
      · have HK := hid hk
        have HKL := hid hkl
        have hEB := HEB.out
        have hZS := HZS.out
        have hEW := HEW.out
        have hWS := HWS.out
        rw [if_pos hk] at hEB hZS
        rw [if_neg hkl] at hEW hWS
        subst hEB hEW
        have HZE := hid hZS.symm
        subst hWS
        have HHd1 := hid (fun W => refHead ⟨cls, tag, cons, len, size⟩ W)
        have HHd2 := hid (fun W => refHead ⟨cls, tag, cons, xs.length, size⟩ W)
        rw [show hdOk ⟨cls, tag, cons, len, size⟩ = true from hdOk_iff.2 hk] at HHd1
        rw [show hdOk ⟨cls, tag, cons, (xs.length : Int), size⟩ = false from by simp [hdOk, hkl]] at HHd2
        unfold Hd.val at HHd1 HHd2
        dsimp only at HHd1 HHd2
        clear hk hkl hZS
        have tok2 : True := trivial
        have tok3 : True := trivial
        have tok4 : True := trivial
        have tok5 : True := trivial
        have tok6 : True := trivial
        go_wp2_with (first
          | (go_at_call 15; have _t := tok2; clear tok2; refine (keepBytes vo vcut ((xs.drop n).take m) ((xs.drop n).take m) _ (HO7.out.sl.below (by (repeat (first | exact Below.refl _ _ | exact below_drewN _ | refine Below.drew ?_ | refine Below.alloc ?_ (by simp) _ | refine Below.setCell ?_ (by simp) _ | refine below_drewN' ?_ _)))) (HCS.out _ (HS.out.below (HB7.out.trans (by (repeat (first | exact Below.refl _ _ | exact below_drewN _ | refine Below.drew ?_ | refine Below.alloc ?_ (by simp; omega) _ | refine Below.alloc ?_ (by omega) _ | refine Below.setCell ?_ (by simp; omega) _ | refine below_drewN' ?_ _))))))).mono ?_; rw [eqL_self]; rintro e w8 ⟨rfl, n2, rfl⟩)
          | (go_at_call 15; have _t := tok3; clear tok3; refine (keepBytes vr vrut (xs.drop (n + m)) (xs.drop (n + m)) _ (HR7.out.sl.below (by (repeat (first | exact Below.refl _ _ | exact below_drewN _ | refine Below.drew ?_ | refine Below.alloc ?_ (by simp) _ | refine Below.setCell ?_ (by simp) _ | refine below_drewN' ?_ _)))) (HRS.out _ (HS.out.below (HB7.out.trans (by (repeat (first | exact Below.refl _ _ | exact below_drewN _ | refine Below.drew ?_ | refine Below.alloc ?_ (by simp; omega) _ | refine Below.alloc ?_ (by omega) _ | refine Below.setCell ?_ (by simp; omega) _ | refine below_drewN' ?_ _))))))).mono ?_; rw [eqL_self]; rintro e w8 ⟨rfl, n3, rfl⟩)
          | (go_at_call 16; have _t := tok4; clear tok4; refine (HHd1.out _).mono ?_; rintro e w8 ⟨rfl, hb8⟩; have hbb := hid (Below.trans (show Below w7.heap.size w7 _ by (repeat (first | exact Below.refl _ _ | exact below_drewN _ | refine Below.drew ?_ | refine Below.alloc ?_ (by simp) _ | refine Below.setCell ?_ (by simp) _ | refine below_drewN' ?_ _))) (hb8.mono (by simp))); have HH8 := hid (HH7.out.below hbb.out HH7.out.lt); have HZ8 := hid (HZ7.out.below hbb.out); have HW8 := hid (HW7.out.below hbb.out); have HB8 := hid (HB7.out.trans (hbb.out.mono (by omega))); have hz8 := hbb.out.size; clear k0 k1 k2 k3 k4; obtain ⟨k0, k1, k2, k3, k4⟩ := HH8.out.five; obtain ⟨f0, f1, f2, f3, f4⟩ := HH8.out.ice5; have hl8 := HH8.out.lt; clear hb8 hbb)
          | (go_at_call 17; refine (refHeadBytes ⟨cls, tag, cons, len, size⟩ _ HK.out).mono ?_; rintro e w9 ⟨v9, rfl, ho9, hb9⟩; have HV9 := hid ho9; have HH9 := hid (HH8.out.below hb9 HH8.out.lt); have HZ9 := hid (HZ8.out.below hb9); have HW9 := hid (HW8.out.below hb9); have HB9 := hid (HB8.out.trans (hb9.mono (by omega))); have hz9 := hb9.size; clear k0 k1 k2 k3 k4 f0 f1 f2 f3 f4; obtain ⟨k0, k1, k2, k3, k4⟩ := HH9.out.five; obtain ⟨f0, f1, f2, f3, f4⟩ := HH9.out.ice5; have hl9 := HH9.out.lt; clear ho9 hb9)
          | (go_at_call 15; have _t := tok5; clear tok5; refine (keepBytes _ v9 zs zs _ HZ9.out.sl (HZE.out ▸ HV9.out.sl)).mono ?_; rw [eqL_self]; rintro e w8 ⟨rfl, n4, rfl⟩; have HH9 := hid (HH9.out.drewN n4); have HW9 := hid (HW9.out.drewN n4); have HB9 := hid (below_drewN' HB9.out n4))
          | (go_at_call 16; refine (HHd2.out _).mono ?_; rintro e w10 ⟨rfl, hb10⟩; have HBs := hid (HB9.out.setCell (p := ⟨w.heap.size, 3, none⟩) (Nat.le_refl _) (.int .i64 (xs.length : Int))); have HHs := hid (HH9.out.set 3 (.int .i64 (xs.length : Int))); have HWs := hid (HW9.out.set HH9.out (by decide) 3 (.int .i64 (xs.length : Int))); have HH10 := hid (Box.below (show Box 24 [.int .i64 cls, .int .i64 tag, .bool cons, .int .i64 (xs.length : Int), .int .i64 size] w.heap.size _ from HHs.out) hb10 (by first | omega | (simp [World.setCell]; omega) | (simp [World.setCell, World.drewN]; omega) | (simp; omega))); have HW10 := hid (Own.below (show Own .u8 5 _ _ _ _ from HWs.out) hb10); have HB10 := hid (Below.trans (show Below w.heap.size w _ from HBs.out.trans (by (repeat (first | exact Below.refl _ _ | exact below_drewN _ | refine Below.drew ?_ | refine Below.alloc ?_ (by simp; omega) _ | refine Below.alloc ?_ (by omega) _ | refine Below.setCell ?_ (by simp; omega) _ | refine below_drewN' ?_ _)))) (hb10.mono (by first | omega | (simp [World.setCell]; omega) | (simp [World.setCell, World.drewN]; omega) | (simp; omega)))); have hz10 := hb10.size; try simp [World.setCell] at hz10; clear k0 k1 k2 k3 k4 f0 f1 f2 f3 f4; obtain ⟨k0, k1, k2, k3, k4⟩ := HH10.out.five; have hl10 := HH10.out.lt; clear hb10)
          | (go_at_call 18; refine (wakesOk _).mono ?_; rintro e w12 ⟨rfl, hb12⟩; have HB12 := hid (Below.trans (HB10.out.trans (by (repeat (first | exact Below.refl _ _ | exact below_drewN _ | refine Below.drew ?_ | refine Below.alloc ?_ (by simp; omega) _ | refine Below.alloc ?_ (by omega) _ | refine Below.setCell ?_ (by simp; omega) _ | refine below_drewN' ?_ _)))) (hb12.mono (by first | omega | (simp; omega) | simp)))))
        go_ret
        exact ⟨rfl, HB12.out⟩
    · by_cases hkl : HdOk ⟨cls, tag, cons, (xs.length : Int), size⟩
      · have HK := hid hk
        have HKL := hid hkl
        have hEB := HEB.out
        have hZS := HZS.out
        have hEW := HEW.out
        have hWS := HWS.out
        rw [if_neg hk] at hEB hZS
        rw [if_pos hkl] at hEW hWS
        subst hEB hEW
        subst hZS
        have HWE := hid hWS.symm
        have HHd1 := hid (fun W => refHead ⟨cls, tag, cons, len, size⟩ W)
        have HHd2 := hid (fun W => refHead ⟨cls, tag, cons, xs.length, size⟩ W)
        rw [show hdOk ⟨cls, tag, cons, len, size⟩ = false from by simp [hdOk, hk]] at HHd1
        rw [show hdOk ⟨cls, tag, cons, (xs.length : Int), size⟩ = true from hdOk_iff.2 hkl] at HHd2
        unfold Hd.val at HHd1 HHd2
        dsimp only at HHd1 HHd2
        clear hk hkl hWS
        have tok2 : True := trivial
        have tok3 : True := trivial
        have tok4 : True := trivial
        have tok5 : True := trivial
        have tok6 : True := trivial
        go_wp2_with (first
          | (go_at_call 15; have _t := tok2; clear tok2; refine (keepBytes vo vcut ((xs.drop n).take m) ((xs.drop n).take m) _ (HO7.out.sl.below (by (repeat (first | exact Below.refl _ _ | exact below_drewN _ | refine Below.drew ?_ | refine Below.alloc ?_ (by simp) _ | refine Below.setCell ?_ (by simp) _ | refine below_drewN' ?_ _)))) (HCS.out _ (HS.out.below (HB7.out.trans (by (repeat (first | exact Below.refl _ _ | exact below_drewN _ | refine Below.drew ?_ | refine Below.alloc ?_ (by simp; omega) _ | refine Below.alloc ?_ (by omega) _ | refine Below.setCell ?_ (by simp; omega) _ | refine below_drewN' ?_ _))))))).mono ?_; rw [eqL_self]; rintro e w8 ⟨rfl, n2, rfl⟩)
          | (go_at_call 15; have _t := tok3; clear tok3; refine (keepBytes vr vrut (xs.drop (n + m)) (xs.drop (n + m)) _ (HR7.out.sl.below (by (repeat (first | exact Below.refl _ _ | exact below_drewN _ | refine Below.drew ?_ | refine Below.alloc ?_ (by simp) _ | refine Below.setCell ?_ (by simp) _ | refine below_drewN' ?_ _)))) (HRS.out _ (HS.out.below (HB7.out.trans (by (repeat (first | exact Below.refl _ _ | exact below_drewN _ | refine Below.drew ?_ | refine Below.alloc ?_ (by simp; omega) _ | refine Below.alloc ?_ (by omega) _ | refine Below.setCell ?_ (by simp; omega) _ | refine below_drewN' ?_ _))))))).mono ?_; rw [eqL_self]; rintro e w8 ⟨rfl, n3, rfl⟩)
          | (go_at_call 16; have _t := tok4; clear tok4; refine (HHd1.out _).mono ?_; rintro e w8 ⟨rfl, hb8⟩; have hbb := hid (Below.trans (show Below w7.heap.size w7 _ by (repeat (first | exact Below.refl _ _ | exact below_drewN _ | refine Below.drew ?_ | refine Below.alloc ?_ (by simp) _ | refine Below.setCell ?_ (by simp) _ | refine below_drewN' ?_ _))) (hb8.mono (by simp))); have HH8 := hid (HH7.out.below hbb.out HH7.out.lt); have HZ8 := hid (HZ7.out.below hbb.out); have HW8 := hid (HW7.out.below hbb.out); have HB8 := hid (HB7.out.trans (hbb.out.mono (by omega))); have hz8 := hbb.out.size; clear k0 k1 k2 k3 k4; obtain ⟨k0, k1, k2, k3, k4⟩ := HH8.out.five; obtain ⟨f0, f1, f2, f3, f4⟩ := HH8.out.ice5; have hl8 := HH8.out.lt; clear hb8 hbb)
          | (go_at_call 16; refine (HHd2.out _).mono ?_; rintro e w10 ⟨rfl, hb10⟩; have HBs := hid (HB8.out.setCell (p := ⟨w.heap.size, 3, none⟩) (Nat.le_refl _) (.int .i64 (xs.length : Int))); have HHs := hid (HH8.out.set 3 (.int .i64 (xs.length : Int))); have HWs := hid (HW8.out.set HH8.out (by decide) 3 (.int .i64 (xs.length : Int))); have HH10 := hid (Box.below (show Box 24 [.int .i64 cls, .int .i64 tag, .bool cons, .int .i64 (xs.length : Int), .int .i64 size] w.heap.size _ from HHs.out) hb10 (by first | omega | (simp [World.setCell]; omega) | (simp [World.setCell, World.drewN]; omega) | (simp; omega))); have HW10 := hid (Own.below (show Own .u8 5 _ _ _ _ from HWs.out) hb10); have HB10 := hid (Below.trans (show Below w.heap.size w _ from HBs.out.trans (by (repeat (first | exact Below.refl _ _ | exact below_drewN _ | refine Below.drew ?_ | refine Below.alloc ?_ (by simp; omega) _ | refine Below.alloc ?_ (by omega) _ | refine Below.setCell ?_ (by simp; omega) _ | refine below_drewN' ?_ _)))) (hb10.mono (by first | omega | (simp [World.setCell]; omega) | (simp [World.setCell, World.drewN]; omega) | (simp; omega)))); have hz10 := hb10.size; try simp [World.setCell] at hz10; clear k0 k1 k2 k3 k4 f0 f1 f2 f3 f4; obtain ⟨k0, k1, k2, k3, k4⟩ := HH10.out.five; have hl10 := HH10.out.lt; clear hb10)
          | (go_at_call 19; refine (refWrap cls tag cons (.slice a xs.length cap) xs _ (HS.out.below HB10.out) HKL.out (by omega)).mono ?_; rintro e w11 ⟨v11, rfl, ho11, hb11⟩; have HV11 := hid ho11; have HW11 := hid (HW10.out.below hb11); have HB11 := hid (HB10.out.trans (hb11.mono (by omega))); have hz11 := hb11.size; clear ho11 hb11)
          | (go_at_call 15; have _t := tok6; clear tok6; refine (keepBytes _ v11 ws ws _ HW11.out.sl (HWE.out ▸ HV11.out.sl)).mono ?_; rw [eqL_self]; rintro e w8 ⟨rfl, n6, rfl⟩)
          | (go_at_call 18; refine (wakesOk _).mono ?_; rintro e w12 ⟨rfl, hb12⟩; have HB12 := hid (Below.trans (HB11.out.trans (by (repeat (first | exact Below.refl _ _ | exact below_drewN _ | refine Below.drew ?_ | refine Below.alloc ?_ (by simp; omega) _ | refine Below.alloc ?_ (by omega) _ | refine Below.setCell ?_ (by simp; omega) _ | refine below_drewN' ?_ _)))) (hb12.mono (by first | omega | (simp; omega) | simp)))))
        go_ret
        exact ⟨rfl, HB12.out⟩
      · have HK := hid hk
        have HKL := hid hkl
        have hEB := HEB.out
        have hZS := HZS.out
        have hEW := HEW.out
        have hWS := HWS.out
        rw [if_neg hk] at hEB hZS
        rw [if_neg hkl] at hEW hWS
        subst hEB hEW
        subst hZS
        subst hWS
        have HHd1 := hid (fun W => refHead ⟨cls, tag, cons, len, size⟩ W)
        have HHd2 := hid (fun W => refHead ⟨cls, tag, cons, xs.length, size⟩ W)
        rw [show hdOk ⟨cls, tag, cons, len, size⟩ = false from by simp [hdOk, hk]] at HHd1
        rw [show hdOk ⟨cls, tag, cons, (xs.length : Int), size⟩ = false from by simp [hdOk, hkl]] at HHd2
        unfold Hd.val at HHd1 HHd2
        dsimp only at HHd1 HHd2
        clear hk hkl
        have tok2 : True := trivial
        have tok3 : True := trivial
        have tok4 : True := trivial
        have tok5 : True := trivial
        have tok6 : True := trivial
        go_wp2_with (first
          | (go_at_call 15; have _t := tok2; clear tok2; refine (keepBytes vo vcut ((xs.drop n).take m) ((xs.drop n).take m) _ (HO7.out.sl.below (by (repeat (first | exact Below.refl _ _ | exact below_drewN _ | refine Below.drew ?_ | refine Below.alloc ?_ (by simp) _ | refine Below.setCell ?_ (by simp) _ | refine below_drewN' ?_ _)))) (HCS.out _ (HS.out.below (HB7.out.trans (by (repeat (first | exact Below.refl _ _ | exact below_drewN _ | refine Below.drew ?_ | refine Below.alloc ?_ (by simp; omega) _ | refine Below.alloc ?_ (by omega) _ | refine Below.setCell ?_ (by simp; omega) _ | refine below_drewN' ?_ _))))))).mono ?_; rw [eqL_self]; rintro e w8 ⟨rfl, n2, rfl⟩)
          | (go_at_call 15; have _t := tok3; clear tok3; refine (keepBytes vr vrut (xs.drop (n + m)) (xs.drop (n + m)) _ (HR7.out.sl.below (by (repeat (first | exact Below.refl _ _ | exact below_drewN _ | refine Below.drew ?_ | refine Below.alloc ?_ (by simp) _ | refine Below.setCell ?_ (by simp) _ | refine below_drewN' ?_ _)))) (HRS.out _ (HS.out.below (HB7.out.trans (by (repeat (first | exact Below.refl _ _ | exact below_drewN _ | refine Below.drew ?_ | refine Below.alloc ?_ (by simp; omega) _ | refine Below.alloc ?_ (by omega) _ | refine Below.setCell ?_ (by simp; omega) _ | refine below_drewN' ?_ _))))))).mono ?_; rw [eqL_self]; rintro e w8 ⟨rfl, n3, rfl⟩)
          | (go_at_call 16; have _t := tok4; clear tok4; refine (HHd1.out _).mono ?_; rintro e w8 ⟨rfl, hb8⟩; have hbb := hid (Below.trans (show Below w7.heap.size w7 _ by (repeat (first | exact Below.refl _ _ | exact below_drewN _ | refine Below.drew ?_ | refine Below.alloc ?_ (by simp) _ | refine Below.setCell ?_ (by simp) _ | refine below_drewN' ?_ _))) (hb8.mono (by simp))); have HH8 := hid (HH7.out.below hbb.out HH7.out.lt); have HZ8 := hid (HZ7.out.below hbb.out); have HW8 := hid (HW7.out.below hbb.out); have HB8 := hid (HB7.out.trans (hbb.out.mono (by omega))); have hz8 := hbb.out.size; clear k0 k1 k2 k3 k4; obtain ⟨k0, k1, k2, k3, k4⟩ := HH8.out.five; obtain ⟨f0, f1, f2, f3, f4⟩ := HH8.out.ice5; have hl8 := HH8.out.lt; clear hb8 hbb)
          | (go_at_call 16; refine (HHd2.out _).mono ?_; rintro e w10 ⟨rfl, hb10⟩; have HBs := hid (HB8.out.setCell (p := ⟨w.heap.size, 3, none⟩) (Nat.le_refl _) (.int .i64 (xs.length : Int))); have HHs := hid (HH8.out.set 3 (.int .i64 (xs.length : Int))); have HWs := hid (HW8.out.set HH8.out (by decide) 3 (.int .i64 (xs.length : Int))); have HH10 := hid (Box.below (show Box 24 [.int .i64 cls, .int .i64 tag, .bool cons, .int .i64 (xs.length : Int), .int .i64 size] w.heap.size _ from HHs.out) hb10 (by first | omega | (simp [World.setCell]; omega) | (simp [World.setCell, World.drewN]; omega) | (simp; omega))); have HW10 := hid (Own.below (show Own .u8 5 _ _ _ _ from HWs.out) hb10); have HB10 := hid (Below.trans (show Below w.heap.size w _ from HBs.out.trans (by (repeat (first | exact Below.refl _ _ | exact below_drewN _ | refine Below.drew ?_ | refine Below.alloc ?_ (by simp; omega) _ | refine Below.alloc ?_ (by omega) _ | refine Below.setCell ?_ (by simp; omega) _ | refine below_drewN' ?_ _)))) (hb10.mono (by first | omega | (simp [World.setCell]; omega) | (simp [World.setCell, World.drewN]; omega) | (simp; omega)))); have hz10 := hb10.size; try simp [World.setCell] at hz10; clear k0 k1 k2 k3 k4 f0 f1 f2 f3 f4; obtain ⟨k0, k1, k2, k3, k4⟩ := HH10.out.five; have hl10 := HH10.out.lt; clear hb10)
          | (go_at_call 18; refine (wakesOk _).mono ?_; rintro e w12 ⟨rfl, hb12⟩; have HB12 := hid (Below.trans (HB10.out.trans (by (repeat (first | exact Below.refl _ _ | exact below_drewN _ | refine Below.drew ?_ | refine Below.alloc ?_ (by simp; omega) _ | refine Below.alloc ?_ (by omega) _ | refine Below.setCell ?_ (by simp; omega) _ | refine below_drewN' ?_ _)))) (hb12.mono (by first | omega | (simp; omega) | simp)))))
        go_ret
        exact ⟨rfl, HB12.out⟩
  · obtain ⟨I, hIq⟩ : ∃ I, I = (oneS xs).2.2.2 := ⟨_, rfl⟩
    have hos := oneS_err hI
    rw [← hIq] at hos hI
    unfold Hd.zero at hos
    have HOn := hid (fun v W hW => tlvOne' v xs W hW hu (by omega) hos)
    have hor : oneR xs = (Hd.zero, 0, I) := by unfold oneR; rw [← hIq, if_neg hI]
    have HRo := hid (fun W hW => refOne vb xs W hW hu)
    rw [hor] at HRo
    unfold Hd.val Hd.zero at HRo
    dsimp only at HRo
    have hI1 : (I == 0) = false := by simp [hI]
    have hI2 : (I != 0) = true := by simp [hI]
    clear hos hor hI hIq
    obtain ⟨a, cap, hvb⟩ := HVB.out
    subst hvb
    go_enter Try.func3, Try.ntmps3
    go_upto_region 10 with (first
      | (go_at_call 8; refine (keepTwin (.slice a xs.length cap) xs _ (HS.out.below (by (repeat (first | exact Below.refl _ _ | exact below_drewN _ | refine Below.drew ?_ | refine Below.alloc ?_ (by simp) _ | refine Below.setCell ?_ (by simp) _ | refine below_drewN' ?_ _)))) (by omega)).mono ?_; rintro e w1 ⟨vc, rfl, ho1, hb1⟩; have HC1 := hid ho1; have HH1 := hid (Box.below (Box.made w 24 [.int .i64 cls, .int .i64 tag, .bool cons, .int .i64 len, .int .i64 size]) hb1 (by simp)); have HB1 := hid (Below.trans (show Below w.heap.size w _ by (repeat (first | exact Below.refl _ _ | exact below_drewN _ | refine Below.drew ?_ | refine Below.alloc ?_ (by simp) _ | refine Below.setCell ?_ (by simp) _ | refine below_drewN' ?_ _))) (hb1.mono (by simp))); have hz1 := hb1.size; simp at hz1; clear ho1 hb1)
      | (go_at_call 9; refine (readHead' vc xs _ HC1.out.sl hu HX.out).mono ?_; rintro e w2 ⟨rfl, hb2⟩; have HC2 := hid (HC1.out.below hb2); have HH2 := hid (HH1.out.below hb2 HH1.out.lt); have HB2 := hid (HB1.out.trans (hb2.mono (by omega))); have hz2 := hb2.size; clear hb2)
      | (go_at_call 10; refine (refRead' (.slice a xs.length cap) xs _ (HS.out.below (HB2.out.trans (by (repeat (first | exact Below.refl _ _ | exact below_drewN _ | refine Below.drew ?_ | refine Below.alloc ?_ (by simp; omega) _ | refine Below.alloc ?_ (by omega) _ | refine Below.setCell ?_ (by simp; omega) _ | refine below_drewN' ?_ _))))) hu HX.out).mono ?_; rintro e w3 ⟨rfl, hb3⟩; have hbb := hid (Below.trans (show Below w2.heap.size w2 _ by (repeat (first | exact Below.refl _ _ | exact below_drewN _ | refine Below.drew ?_ | refine Below.alloc ?_ (by simp) _ | refine Below.setCell ?_ (by simp) _ | refine below_drewN' ?_ _))) (hb3.mono (by simp))); have HC3 := hid (HC2.out.below hbb.out); have HH3 := hid (HH2.out.below hbb.out HH2.out.lt); have HXx3 := hid (Box.below (Box.made w2 24 [.int .i64 xc, .int .i64 xt, .bool xb, .int .i64 xl, .int .i64 xz]) hb3 (by simp)); have HB3 := hid (HB2.out.trans (hbb.out.mono (by omega))); have hz3 := hb3.size; simp at hz3; obtain ⟨k0, k1, k2, k3, k4⟩ := HH3.out.five; have hl3 := HH3.out.lt; clear hb3 hbb)
      | (go_at_call 11; refine (HBy.out _).mono ?_; rintro e w4 ⟨vz, rfl, ho4, hb4⟩; have hbb := hid (Below.trans (show Below w3.heap.size w3 _ by (repeat (first | exact Below.refl _ _ | exact below_drewN _ | refine Below.drew ?_ | refine Below.alloc ?_ (by simp) _ | refine Below.setCell ?_ (by simp) _ | refine below_drewN' ?_ _))) (hb4.mono (by simp))); have HZ4 := hid ho4; have HC4 := hid (HC3.out.below hbb.out); have HH4 := hid (HH3.out.below hbb.out HH3.out.lt); have HXx4 := hid (HXx3.out.below hbb.out HXx3.out.lt); have HXy4 := hid (Box.below (Box.made w3 24 [.int .i64 xc, .int .i64 xt, .bool xb, .int .i64 xl, .int .i64 xz]) hb4 (by simp)); have HB4 := hid (HB3.out.trans (hbb.out.mono (by omega))); have hz4 := hb4.size; simp at hz4; clear ho4 hb4 hbb k0 k1 k2 k3 k4)
      | (go_at_call 12; refine (HOn.out vc _ HC4.out.sl).mono ?_; rintro e w5 ⟨vo, vr, rfl, ho5, hp5, hb5⟩; have HO5 := hid ho5; have HR5 := hid hp5; have HZ5 := hid (HZ4.out.below hb5); have HC5 := hid (HC4.out.below hb5); have HH5 := hid (HH4.out.below hb5 HH4.out.lt); have HXx5 := hid (HXx4.out.below hb5 HXx4.out.lt); have HXy5 := hid (HXy4.out.below hb5 HXy4.out.lt); have HB5 := hid (HB4.out.trans (hb5.mono (by omega))); have hz5 := hb5.size; clear ho5 hp5 hb5)
      | (go_at_call 13; refine (HRo.out _ (HS.out.below (HB5.out.trans (by (repeat (first | exact Below.refl _ _ | exact below_drewN _ | refine Below.drew ?_ | refine Below.alloc ?_ (by simp; omega) _ | refine Below.alloc ?_ (by omega) _ | refine Below.setCell ?_ (by simp; omega) _ | refine below_drewN' ?_ _)))))).mono ?_; rintro e w6 ⟨rfl, hb6⟩; have hbb := hid (Below.trans (show Below w5.heap.size w5 _ by (repeat (first | exact Below.refl _ _ | exact below_drewN _ | refine Below.drew ?_ | refine Below.alloc ?_ (by simp) _ | refine Below.setCell ?_ (by simp) _ | refine below_drewN' ?_ _))) (hb6.mono (by simp))); have HO6 := hid (HO5.out.below hbb.out); have HR6 := hid (HR5.out.below hbb.out); have HZ6 := hid (HZ5.out.below hbb.out); have HC6 := hid (HC5.out.below hbb.out); have HH6 := hid (HH5.out.below hbb.out HH5.out.lt); have HXx6 := hid (HXx5.out.below hbb.out HXx5.out.lt); have HXy6 := hid (HXy5.out.below hbb.out HXy5.out.lt); have HXo6 := hid (Box.below (Box.made w5 24 [.int .i64 0, .int .i64 0, .bool false, .int .i64 0, .int .i64 0]) hb6 (by simp)); have HB6 := hid (HB5.out.trans (hbb.out.mono (by omega))); have hz6 := hb6.size; simp at hz6; obtain ⟨k0, k1, k2, k3, k4⟩ := HH6.out.five; have hl6 := HH6.out.lt; clear hb6 hbb)
      | (go_at_call 14; refine (HWr.out vc _ ((HC6.out.alloc _).sl)).mono ?_; rintro e w7 ⟨vw, rfl, ho7, hb7⟩; have hbb := hid (Below.trans (show Below w6.heap.size w6 _ by (repeat (first | exact Below.refl _ _ | exact below_drewN _ | refine Below.drew ?_ | refine Below.alloc ?_ (by simp) _ | refine Below.setCell ?_ (by simp) _ | refine below_drewN' ?_ _))) (hb7.mono (by simp))); have HW7 := hid ho7; have HO7 := hid (HO6.out.below hbb.out); have HR7 := hid (HR6.out.below hbb.out); have HZ7 := hid (HZ6.out.below hbb.out); have HC7 := hid (HC6.out.below hbb.out); have HH7 := hid (HH6.out.below hbb.out HH6.out.lt); have HXx7 := hid (HXx6.out.below hbb.out HXx6.out.lt); have HXy7 := hid (HXy6.out.below hbb.out HXy6.out.lt); have HXo7 := hid (HXo6.out.below hbb.out HXo6.out.lt); have HXp7 := hid (Box.below (Box.made w6 24 [.int .i64 0, .int .i64 0, .bool false, .int .i64 0, .int .i64 0]) hb7 (by simp)); have HB7 := hid (HB6.out.trans (hbb.out.mono (by omega))); have hz7 := hb7.size; simp at hz7; clear ho7 hb7 hbb k0 k1 k2 k3 k4))
    obtain ⟨x0, x1, x2, x3, x4⟩ := HXx7.out.five
    obtain ⟨y0, y1, y2, y3, y4⟩ := HXy7.out.five
    obtain ⟨o0, o1, o2, o3, o4⟩ := HXo7.out.five
    obtain ⟨p0, p1, p2, p3, p4⟩ := HXp7.out.five
    obtain ⟨az, capz, haz, -, -, -⟩ := HZ7.out.sl
    obtain ⟨aw, capw, haw, -, -, -⟩ := HW7.out.sl
    subst haz haw
    have hzl : zs.length ≤ 12 := by rw [HZS.out]; split
                                    · rename_i hk; exact hdB_len hk
                                    · simp
    have hwl : ws.length ≤ 800 := by rw [HWS.out]; split
                                     · rename_i hk; have := hdB_len hk; simp; omega
                                     · simp
    obtain ⟨ao, capo, hao, -, -, -⟩ := HO7.out.sl
    obtain ⟨ar, capr, har, -, -, -⟩ := HR7.out.sl
    simp only [List.length_nil] at hao har
    subst hao har
    have tok1 : True := trivial
    go_upto_region 12 with (go_at_call 15; refine (keepBytes vc (.slice a xs.length cap) xs xs _ HC7.out.sl (HS.out.below HB7.out)).mono ?_; rw [eqL_self]; rintro e w8 ⟨rfl, n1, rfl⟩)
    clear x0 x1 x2 x3 x4 y0 y1 y2 y3 y4 o0 o1 o2 o3 o4 p0 p1 p2 p3
    obtain ⟨k0, k1, k2, k3, k4⟩ := HH7.out.five
    by_cases hk : HdOk ⟨cls, tag, cons, len, size⟩
    · by_cases hkl : HdOk ⟨cls, tag, cons, (xs.length : Int), size⟩
      · have HK := hid hk
        have HKL := hid hkl
        have hEB := HEB.out
        have hZS := HZS.out
        have hEW := HEW.out
        have hWS := HWS.out
        rw [if_pos hk] at hEB hZS
        rw [if_pos hkl] at hEW hWS
        subst hEB hEW
        have HZE := hid hZS.symm
        have HWE := hid hWS.symm
        have HHd1 := hid (fun W => refHead ⟨cls, tag, cons, len, size⟩ W)
        have HHd2 := hid (fun W => refHead ⟨cls, tag, cons, xs.length, size⟩ W)
        rw [show hdOk ⟨cls, tag, cons, len, size⟩ = true from hdOk_iff.2 hk] at HHd1
        rw [show hdOk ⟨cls, tag, cons, (xs.length : Int), size⟩ = true from hdOk_iff.2 hkl] at HHd2
        unfold Hd.val at HHd1 HHd2
        dsimp only at HHd1 HHd2
        clear hk hkl hZS hWS
        have tok2 : True := trivial
        have tok3 : True := trivial
        have tok4 : True := trivial
        have tok5 : True := trivial
        have tok6 : True := trivial
        go_wp2_with (first
          | (go_at_call 16; have _t := tok4; clear tok4; refine (HHd1.out _).mono ?_; rintro e w8 ⟨rfl, hb8⟩; have hbb := hid (Below.trans (show Below w7.heap.size w7 _ by (repeat (first | exact Below.refl _ _ | exact below_drewN _ | refine Below.drew ?_ | refine Below.alloc ?_ (by simp) _ | refine Below.setCell ?_ (by simp) _ | refine below_drewN' ?_ _))) (hb8.mono (by simp))); have HH8 := hid (HH7.out.below hbb.out HH7.out.lt); have HZ8 := hid (HZ7.out.below hbb.out); have HW8 := hid (HW7.out.below hbb.out); have HB8 := hid (HB7.out.trans (hbb.out.mono (by omega))); have hz8 := hbb.out.size; clear k0 k1 k2 k3 k4; obtain ⟨k0, k1, k2, k3, k4⟩ := HH8.out.five; obtain ⟨f0, f1, f2, f3, f4⟩ := HH8.out.ice5; have hl8 := HH8.out.lt; clear hb8 hbb)
          | (go_at_call 17; refine (refHeadBytes ⟨cls, tag, cons, len, size⟩ _ HK.out).mono ?_; rintro e w9 ⟨v9, rfl, ho9, hb9⟩; have HV9 := hid ho9; have HH9 := hid (HH8.out.below hb9 HH8.out.lt); have HZ9 := hid (HZ8.out.below hb9); have HW9 := hid (HW8.out.below hb9); have HB9 := hid (HB8.out.trans (hb9.mono (by omega))); have hz9 := hb9.size; clear k0 k1 k2 k3 k4 f0 f1 f2 f3 f4; obtain ⟨k0, k1, k2, k3, k4⟩ := HH9.out.five; obtain ⟨f0, f1, f2, f3, f4⟩ := HH9.out.ice5; have hl9 := HH9.out.lt; clear ho9 hb9)
          | (go_at_call 15; have _t := tok5; clear tok5; refine (keepBytes _ v9 zs zs _ HZ9.out.sl (HZE.out ▸ HV9.out.sl)).mono ?_; rw [eqL_self]; rintro e w8 ⟨rfl, n4, rfl⟩; have HH9 := hid (HH9.out.drewN n4); have HW9 := hid (HW9.out.drewN n4); have HB9 := hid (below_drewN' HB9.out n4))
          | (go_at_call 16; refine (HHd2.out _).mono ?_; rintro e w10 ⟨rfl, hb10⟩; have HBs := hid (HB9.out.setCell (p := ⟨w.heap.size, 3, none⟩) (Nat.le_refl _) (.int .i64 (xs.length : Int))); have HHs := hid (HH9.out.set 3 (.int .i64 (xs.length : Int))); have HWs := hid (HW9.out.set HH9.out (by decide) 3 (.int .i64 (xs.length : Int))); have HH10 := hid (Box.below (show Box 24 [.int .i64 cls, .int .i64 tag, .bool cons, .int .i64 (xs.length : Int), .int .i64 size] w.heap.size _ from HHs.out) hb10 (by first | omega | (simp [World.setCell]; omega) | (simp [World.setCell, World.drewN]; omega) | (simp; omega))); have HW10 := hid (Own.below (show Own .u8 5 _ _ _ _ from HWs.out) hb10); have HB10 := hid (Below.trans (show Below w.heap.size w _ from HBs.out.trans (by (repeat (first | exact Below.refl _ _ | exact below_drewN _ | refine Below.drew ?_ | refine Below.alloc ?_ (by simp; omega) _ | refine Below.alloc ?_ (by omega) _ | refine Below.setCell ?_ (by simp; omega) _ | refine below_drewN' ?_ _)))) (hb10.mono (by first | omega | (simp [World.setCell]; omega) | (simp [World.setCell, World.drewN]; omega) | (simp; omega)))); have hz10 := hb10.size; try simp [World.setCell] at hz10; clear k0 k1 k2 k3 k4 f0 f1 f2 f3 f4; obtain ⟨k0, k1, k2, k3, k4⟩ := HH10.out.five; have hl10 := HH10.out.lt; clear hb10)
          | (go_at_call 19; refine (refWrap cls tag cons (.slice a xs.length cap) xs _ (HS.out.below HB10.out) HKL.out (by omega)).mono ?_; rintro e w11 ⟨v11, rfl, ho11, hb11⟩; have HV11 := hid ho11; have HW11 := hid (HW10.out.below hb11); have HB11 := hid (HB10.out.trans (hb11.mono (by omega))); have hz11 := hb11.size; clear ho11 hb11)
          | (go_at_call 15; have _t := tok6; clear tok6; refine (keepBytes _ v11 ws ws _ HW11.out.sl (HWE.out ▸ HV11.out.sl)).mono ?_; rw [eqL_self]; rintro e w8 ⟨rfl, n6, rfl⟩)
          | (go_at_call 18; refine (wakesOk _).mono ?_; rintro e w12 ⟨rfl, hb12⟩; have HB12 := hid (Below.trans (HB11.out.trans (by (repeat (first | exact Below.refl _ _ | exact below_drewN _ | refine Below.drew ?_ | refine Below.alloc ?_ (by simp; omega) _ | refine Below.alloc ?_ (by omega) _ | refine Below.setCell ?_ (by simp; omega) _ | refine below_drewN' ?_ _)))) (hb12.mono (by first | omega | (simp; omega) | simp)))))
        go_ret
        exact ⟨rfl, HB12.out⟩
      · have HK := hid hk
        have HKL := hid hkl
        have hEB := HEB.out
        have hZS := HZS.out
        have hEW := HEW.out
        have hWS := HWS.out
        rw [if_pos hk] at hEB hZS
        rw [if_neg hkl] at hEW hWS
        subst hEB hEW
        have HZE := hid hZS.symm
        subst hWS
        have HHd1 := hid (fun W => refHead ⟨cls, tag, cons, len, size⟩ W)
        have HHd2 := hid (fun W => refHead ⟨cls, tag, cons, xs.length, size⟩ W)
        rw [show hdOk ⟨cls, tag, cons, len, size⟩ = true from hdOk_iff.2 hk] at HHd1
        rw [show hdOk ⟨cls, tag, cons, (xs.length : Int), size⟩ = false from by simp [hdOk, hkl]] at HHd2
        unfold Hd.val at HHd1 HHd2
        dsimp only at HHd1 HHd2
        clear hk hkl hZS
        have tok2 : True := trivial
        have tok3 : True := trivial
        have tok4 : True := trivial
        have tok5 : True := trivial
        have tok6 : True := trivial
        go_wp2_with (first
          | (go_at_call 16; have _t := tok4; clear tok4; refine (HHd1.out _).mono ?_; rintro e w8 ⟨rfl, hb8⟩; have hbb := hid (Below.trans (show Below w7.heap.size w7 _ by (repeat (first | exact Below.refl _ _ | exact below_drewN _ | refine Below.drew ?_ | refine Below.alloc ?_ (by simp) _ | refine Below.setCell ?_ (by simp) _ | refine below_drewN' ?_ _))) (hb8.mono (by simp))); have HH8 := hid (HH7.out.below hbb.out HH7.out.lt); have HZ8 := hid (HZ7.out.below hbb.out); have HW8 := hid (HW7.out.below hbb.out); have HB8 := hid (HB7.out.trans (hbb.out.mono (by omega))); have hz8 := hbb.out.size; clear k0 k1 k2 k3 k4; obtain ⟨k0, k1, k2, k3, k4⟩ := HH8.out.five; obtain ⟨f0, f1, f2, f3, f4⟩ := HH8.out.ice5; have hl8 := HH8.out.lt; clear hb8 hbb)
          | (go_at_call 17; refine (refHeadBytes ⟨cls, tag, cons, len, size⟩ _ HK.out).mono ?_; rintro e w9 ⟨v9, rfl, ho9, hb9⟩; have HV9 := hid ho9; have HH9 := hid (HH8.out.below hb9 HH8.out.lt); have HZ9 := hid (HZ8.out.below hb9); have HW9 := hid (HW8.out.below hb9); have HB9 := hid (HB8.out.trans (hb9.mono (by omega))); have hz9 := hb9.size; clear k0 k1 k2 k3 k4 f0 f1 f2 f3 f4; obtain ⟨k0, k1, k2, k3, k4⟩ := HH9.out.five; obtain ⟨f0, f1, f2, f3, f4⟩ := HH9.out.ice5; have hl9 := HH9.out.lt; clear ho9 hb9)
          | (go_at_call 15; have _t := tok5; clear tok5; refine (keepBytes _ v9 zs zs _ HZ9.out.sl (HZE.out ▸ HV9.out.sl)).mono ?_; rw [eqL_self]; rintro e w8 ⟨rfl, n4, rfl⟩; have HH9 := hid (HH9.out.drewN n4); have HW9 := hid (HW9.out.drewN n4); have HB9 := hid (below_drewN' HB9.out n4))
          | (go_at_call 16; refine (HHd2.out _).mono ?_; rintro e w10 ⟨rfl, hb10⟩; have HBs := hid (HB9.out.setCell (p := ⟨w.heap.size, 3, none⟩) (Nat.le_refl _) (.int .i64 (xs.length : Int))); have HHs := hid (HH9.out.set 3 (.int .i64 (xs.length : Int))); have HWs := hid (HW9.out.set HH9.out (by decide) 3 (.int .i64 (xs.length : Int))); have HH10 := hid (Box.below (show Box 24 [.int .i64 cls, .int .i64 tag, .bool cons, .int .i64 (xs.length : Int), .int .i64 size] w.heap.size _ from HHs.out) hb10 (by first | omega | (simp [World.setCell]; omega) | (simp [World.setCell, World.drewN]; omega) | (simp; omega))); have HW10 := hid (Own.below (show Own .u8 5 _ _ _ _ from HWs.out) hb10); have HB10 := hid (Below.trans (show Below w.heap.size w _ from HBs.out.trans (by (repeat (first | exact Below.refl _ _ | exact below_drewN _ | refine Below.drew ?_ | refine Below.alloc ?_ (by simp; omega) _ | refine Below.alloc ?_ (by omega) _ | refine Below.setCell ?_ (by simp; omega) _ | refine below_drewN' ?_ _)))) (hb10.mono (by first | omega | (simp [World.setCell]; omega) | (simp [World.setCell, World.drewN]; omega) | (simp; omega)))); have hz10 := hb10.size; try simp [World.setCell] at hz10; clear k0 k1 k2 k3 k4 f0 f1 f2 f3 f4; obtain ⟨k0, k1, k2, k3, k4⟩ := HH10.out.five; have hl10 := HH10.out.lt; clear hb10)
          | (go_at_call 18; refine (wakesOk _).mono ?_; rintro e w12 ⟨rfl, hb12⟩; have HB12 := hid (Below.trans (HB10.out.trans (by (repeat (first | exact Below.refl _ _ | exact below_drewN _ | refine Below.drew ?_ | refine Below.alloc ?_ (by simp; omega) _ | refine Below.alloc ?_ (by omega) _ | refine Below.setCell ?_ (by simp; omega) _ | refine below_drewN' ?_ _)))) (hb12.mono (by first | omega | (simp; omega) | simp)))))
        go_ret
        exact ⟨rfl, HB12.out⟩
    · by_cases hkl : HdOk ⟨cls, tag, cons, (xs.length : Int), size⟩
      · have HK := hid hk
        have HKL := hid hkl
        have hEB := HEB.out
        have hZS := HZS.out
        have hEW := HEW.out
        have hWS := HWS.out
        rw [if_neg hk] at hEB hZS
        rw [if_pos hkl] at hEW hWS
        subst hEB hEW
        subst hZS
        have HWE := hid hWS.symm
        have HHd1 := hid (fun W => refHead ⟨cls, tag, cons, len, size⟩ W)
        have HHd2 := hid (fun W => refHead ⟨cls, tag, cons, xs.length, size⟩ W)
        rw [show hdOk ⟨cls, tag, cons, len, size⟩ = false from by simp [hdOk, hk]] at HHd1
        rw [show hdOk ⟨cls, tag, cons, (xs.length : Int), size⟩ = true from hdOk_iff.2 hkl] at HHd2
        unfold Hd.val at HHd1 HHd2
        dsimp only at HHd1 HHd2
        clear hk hkl hWS
        have tok2 : True := trivial
        have tok3 : True := trivial
        have tok4 : True := trivial
        have tok5 : True := trivial
        have tok6 : True := trivial
        go_wp2_with (first
          | (go_at_call 16; have _t := tok4; clear tok4; refine (HHd1.out _).mono ?_; rintro e w8 ⟨rfl, hb8⟩; have hbb := hid (Below.trans (show Below w7.heap.size w7 _ by (repeat (first | exact Below.refl _ _ | exact below_drewN _ | refine Below.drew ?_ | refine Below.alloc ?_ (by simp) _ | refine Below.setCell ?_ (by simp) _ | refine below_drewN' ?_ _))) (hb8.mono (by simp))); have HH8 := hid (HH7.out.below hbb.out HH7.out.lt); have HZ8 := hid (HZ7.out.below hbb.out); have HW8 := hid (HW7.out.below hbb.out); have HB8 := hid (HB7.out.trans (hbb.out.mono (by omega))); have hz8 := hbb.out.size; clear k0 k1 k2 k3 k4; obtain ⟨k0, k1, k2, k3, k4⟩ := HH8.out.five; obtain ⟨f0, f1, f2, f3, f4⟩ := HH8.out.ice5; have hl8 := HH8.out.lt; clear hb8 hbb)
          | (go_at_call 16; refine (HHd2.out _).mono ?_; rintro e w10 ⟨rfl, hb10⟩; have HBs := hid (HB8.out.setCell (p := ⟨w.heap.size, 3, none⟩) (Nat.le_refl _) (.int .i64 (xs.length : Int))); have HHs := hid (HH8.out.set 3 (.int .i64 (xs.length : Int))); have HWs := hid (HW8.out.set HH8.out (by decide) 3 (.int .i64 (xs.length : Int))); have HH10 := hid (Box.below (show Box 24 [.int .i64 cls, .int .i64 tag, .bool cons, .int .i64 (xs.length : Int), .int .i64 size] w.heap.size _ from HHs.out) hb10 (by first | omega | (simp [World.setCell]; omega) | (simp [World.setCell, World.drewN]; omega) | (simp; omega))); have HW10 := hid (Own.below (show Own .u8 5 _ _ _ _ from HWs.out) hb10); have HB10 := hid (Below.trans (show Below w.heap.size w _ from HBs.out.trans (by (repeat (first | exact Below.refl _ _ | exact below_drewN _ | refine Below.drew ?_ | refine Below.alloc ?_ (by simp; omega) _ | refine Below.alloc ?_ (by omega) _ | refine Below.setCell ?_ (by simp; omega) _ | refine below_drewN' ?_ _)))) (hb10.mono (by first | omega | (simp [World.setCell]; omega) | (simp [World.setCell, World.drewN]; omega) | (simp; omega)))); have hz10 := hb10.size; try simp [World.setCell] at hz10; clear k0 k1 k2 k3 k4 f0 f1 f2 f3 f4; obtain ⟨k0, k1, k2, k3, k4⟩ := HH10.out.five; have hl10 := HH10.out.lt; clear hb10)
          | (go_at_call 19; refine (refWrap cls tag cons (.slice a xs.length cap) xs _ (HS.out.below HB10.out) HKL.out (by omega)).mono ?_; rintro e w11 ⟨v11, rfl, ho11, hb11⟩; have HV11 := hid ho11; have HW11 := hid (HW10.out.below hb11); have HB11 := hid (HB10.out.trans (hb11.mono (by omega))); have hz11 := hb11.size; clear ho11 hb11)
          | (go_at_call 15; have _t := tok6; clear tok6; refine (keepBytes _ v11 ws ws _ HW11.out.sl (HWE.out ▸ HV11.out.sl)).mono ?_; rw [eqL_self]; rintro e w8 ⟨rfl, n6, rfl⟩)
          | (go_at_call 18; refine (wakesOk _).mono ?_; rintro e w12 ⟨rfl, hb12⟩; have HB12 := hid (Below.trans (HB11.out.trans (by (repeat (first | exact Below.refl _ _ | exact below_drewN _ | refine Below.drew ?_ | refine Below.alloc ?_ (by simp; omega) _ | refine Below.alloc ?_ (by omega) _ | refine Below.setCell ?_ (by simp; omega) _ | refine below_drewN' ?_ _)))) (hb12.mono (by first | omega | (simp; omega) | simp)))))
        go_ret
        exact ⟨rfl, HB12.out⟩
      · have HK := hid hk
        have HKL := hid hkl
        have hEB := HEB.out
        have hZS := HZS.out
        have hEW := HEW.out
        have hWS := HWS.out
        rw [if_neg hk] at hEB hZS
        rw [if_neg hkl] at hEW hWS
        subst hEB hEW
        subst hZS
        subst hWS
        have HHd1 := hid (fun W => refHead ⟨cls, tag, cons, len, size⟩ W)
        have HHd2 := hid (fun W => refHead ⟨cls, tag, cons, xs.length, size⟩ W)
        rw [show hdOk ⟨cls, tag, cons, len, size⟩ = false from by simp [hdOk, hk]] at HHd1
        rw [show hdOk ⟨cls, tag, cons, (xs.length : Int), size⟩ = false from by simp [hdOk, hkl]] at HHd2
        unfold Hd.val at HHd1 HHd2
        dsimp only at HHd1 HHd2
        clear hk hkl
        have tok2 : True := trivial
        have tok3 : True := trivial
        have tok4 : True := trivial
        have tok5 : True := trivial
        have tok6 : True := trivial
        go_wp2_with (first
          | (go_at_call 16; have _t := tok4; clear tok4; refine (HHd1.out _).mono ?_; rintro e w8 ⟨rfl, hb8⟩; have hbb := hid (Below.trans (show Below w7.heap.size w7 _ by (repeat (first | exact Below.refl _ _ | exact below_drewN _ | refine Below.drew ?_ | refine Below.alloc ?_ (by simp) _ | refine Below.setCell ?_ (by simp) _ | refine below_drewN' ?_ _))) (hb8.mono (by simp))); have HH8 := hid (HH7.out.below hbb.out HH7.out.lt); have HZ8 := hid (HZ7.out.below hbb.out); have HW8 := hid (HW7.out.below hbb.out); have HB8 := hid (HB7.out.trans (hbb.out.mono (by omega))); have hz8 := hbb.out.size; clear k0 k1 k2 k3 k4; obtain ⟨k0, k1, k2, k3, k4⟩ := HH8.out.five; obtain ⟨f0, f1, f2, f3, f4⟩ := HH8.out.ice5; have hl8 := HH8.out.lt; clear hb8 hbb)
          | (go_at_call 16; refine (HHd2.out _).mono ?_; rintro e w10 ⟨rfl, hb10⟩; have HBs := hid (HB8.out.setCell (p := ⟨w.heap.size, 3, none⟩) (Nat.le_refl _) (.int .i64 (xs.length : Int))); have HHs := hid (HH8.out.set 3 (.int .i64 (xs.length : Int))); have HWs := hid (HW8.out.set HH8.out (by decide) 3 (.int .i64 (xs.length : Int))); have HH10 := hid (Box.below (show Box 24 [.int .i64 cls, .int .i64 tag, .bool cons, .int .i64 (xs.length : Int), .int .i64 size] w.heap.size _ from HHs.out) hb10 (by first | omega | (simp [World.setCell]; omega) | (simp [World.setCell, World.drewN]; omega) | (simp; omega))); have HW10 := hid (Own.below (show Own .u8 5 _ _ _ _ from HWs.out) hb10); have HB10 := hid (Below.trans (show Below w.heap.size w _ from HBs.out.trans (by (repeat (first | exact Below.refl _ _ | exact below_drewN _ | refine Below.drew ?_ | refine Below.alloc ?_ (by simp; omega) _ | refine Below.alloc ?_ (by omega) _ | refine Below.setCell ?_ (by simp; omega) _ | refine below_drewN' ?_ _)))) (hb10.mono (by first | omega | (simp [World.setCell]; omega) | (simp [World.setCell, World.drewN]; omega) | (simp; omega)))); have hz10 := hb10.size; try simp [World.setCell] at hz10; clear k0 k1 k2 k3 k4 f0 f1 f2 f3 f4; obtain ⟨k0, k1, k2, k3, k4⟩ := HH10.out.five; have hl10 := HH10.out.lt; clear hb10)
          | (go_at_call 18; refine (wakesOk _).mono ?_; rintro e w12 ⟨rfl, hb12⟩; have HB12 := hid (Below.trans (HB10.out.trans (by (repeat (first | exact Below.refl _ _ | exact below_drewN _ | refine Below.drew ?_ | refine Below.alloc ?_ (by simp; omega) _ | refine Below.alloc ?_ (by omega) _ | refine Below.setCell ?_ (by simp; omega) _ | refine below_drewN' ?_ _)))) (hb12.mono (by first | omega | (simp; omega) | simp)))))
        go_ret
        exact ⟨rfl, HB12.out⟩

end Go.Proofs.Ytbdmnahkfmildaa
