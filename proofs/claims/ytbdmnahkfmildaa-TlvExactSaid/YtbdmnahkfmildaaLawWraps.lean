/- What Wrap has made is the first value, whole, and what stands behind it is the rest: the walk of the statement. For every input. -/
import Derived.Test.YtbdmnahkfmildaaTlv7
import Derived.Test.YtbdmnahkfmildaaTlvMath2
namespace Go.Proofs.Ytbdmnahkfmildaa
open Go.RowKit

theorem oneS_of {zs : List Int} {hd : Hd} (hr : rd zs = (hd, 0)) (h : hd.len ≤ zs.length - hd.size) : oneS zs = (hd, (zs.drop hd.size.toNat).take hd.len.toNat, zs.drop (hd.size + hd.len).toNat, 0) := by
  have e1 : ¬ ((rd zs).2 ≠ 0) := by rw [hr]; simp
  have e2 : ¬ ((rd zs).1.len > zs.length - (rd zs).1.size) := by rw [hr]; exact Int.not_lt.2 h
  unfold oneS
  rw [if_neg e1, if_neg e2, hr]
theorem oneS_wrap (h : Hd) (xs ms : List Int) (hok : HdOk (h.upon xs.length)) :
    oneS (hdB (h.upon xs.length) ++ xs ++ ms) = (⟨h.cls, h.tag, h.cons, xs.length, ((hdB (h.upon xs.length)).length : Int)⟩, xs, ms, 0) := by
  have hr := rd_back (h.upon xs.length) (xs ++ ms) hok
  rw [← List.append_assoc] at hr
  generalize hdB (h.upon xs.length) = ys at hr ⊢
  rw [oneS_of hr (by simp [Hd.upon]; omega)]
  simp only [Hd.upon]
  congr 2
  · rw [Int.toNat_natCast, Int.toNat_natCast, List.append_assoc, List.drop_left, List.take_left]
  · congr 1
    rw [show ((ys.length : Int) + (xs.length : Int)).toNat = (ys ++ xs).length by simp; omega, List.drop_left]

theorem tlvOne' (v : Value) (zs : List Int) (w : World) (h : Sl .u8 w v zs) (hu : U8 zs) (hl : zs.length ≤ 100000000000000) {c t l s E : Int} {b : Bool} {xs ms : List Int} (ho : oneS zs = (⟨c, t, b, l, s⟩, xs, ms, E)) :
    Calls Try.prog 12 #[v] w fun e w' => ∃ y r, e = .returned (.tuple #[.agg #[.int .i64 c, .int .i64 t, .bool b, .int .i64 l, .int .i64 s], y, r, .int .i64 E]) ∧
      Own .u8 5 w.heap.size w' y xs ∧ Own .u8 5 w.heap.size w' r ms ∧ Below w.heap.size w w' := by
  have := tlvOne v zs w h hu hl
  rw [ho] at this
  exact this

set_option maxHeartbeats 2000000 in
theorem walkWraps (h : Hd) (vc : Value) (xs : List Int) (vm : Value) (ms : List Int) (w : World) (hc : Sl .u8 w vc xs) (hcu : U8 xs) (hm : Sl .u8 w vm ms) (hmu : U8 ms) :
    Calls Try.prog 6 #[h.val, vc, vm] w fun e w' => e = .returned (.bool true) ∧ Below w.heap.size w w' := by
  have HC := hid hc
  have HM := hid hm
  have hlc := hc.len
  have hlm := hm.len
  obtain ⟨ac, capc, rfl, -, -, -⟩ := hc
  obtain ⟨am, capm, rfl, -, -, -⟩ := hm
  by_cases h1 : 700 < xs.length
  · obtain ⟨cls, tag, cons, len, size⟩ := h
    unfold Hd.val
    dsimp only
    go_enter Try.func6, Try.ntmps6
    go_wp2
    go_ret
    exact ⟨rfl, by (repeat (first | exact Below.refl _ _ | exact below_drewN _ | refine Below.drew ?_ | refine Below.alloc ?_ (by simp) _ | refine Below.setCell ?_ (by simp) _ | refine below_drewN' ?_ _))⟩
  by_cases h2 : 700 < ms.length
  · obtain ⟨cls, tag, cons, len, size⟩ := h
    unfold Hd.val
    dsimp only
    go_enter Try.func6, Try.ntmps6
    go_wp2
    go_ret
    exact ⟨rfl, by (repeat (first | exact Below.refl _ _ | exact below_drewN _ | refine Below.drew ?_ | refine Below.alloc ?_ (by simp) _ | refine Below.setCell ?_ (by simp) _ | refine below_drewN' ?_ _))⟩
  by_cases hok : HdOk (h.upon xs.length)
  · have ho := oneS_wrap h xs ms hok
    have hl := hdB_len hok
    have hu8 := u8_hdB hok
    have hw : ∀ W, Sl .u8 W (.slice ac xs.length capc) xs → _ := fun W hW => wrapOk h _ xs W hW hok (by omega)
    obtain ⟨ys, hys⟩ : ∃ ys, ys = hdB (h.upon xs.length) := ⟨_, rfl⟩
    rw [← hys] at ho hl hu8 hw
    obtain ⟨L, hL⟩ : ∃ L : Int, L = (ys.length : Int) := ⟨_, rfl⟩
    rw [← hL] at ho
    obtain ⟨cls, tag, cons, len, size⟩ := h
    unfold Hd.val at hw ⊢
    dsimp only at ho hw ⊢
    have HO := hid ho
    have HU := hid ((hu8.append hcu).append hmu)
    have HW := hid hw
    clear hys hL ho hu8 hw hok hcu hmu
    have tok : True := trivial
    have tok2 : True := trivial
    go_enter Try.func6, Try.ntmps6
    go_wp2_with (first
      | (go_at_call 14; refine (HW.out _ (HC.out.below (by (repeat (first | exact Below.refl _ _ | exact below_drewN _ | refine Below.drew ?_ | refine Below.alloc ?_ (by simp) _ | refine Below.setCell ?_ (by simp) _ | refine below_drewN' ?_ _))))).mono ?_; rintro e w1 ⟨v1, rfl, ho1, hb1⟩; have HO1 := hid ho1; have HX1 := hid (Box.below (Box.made w 24 [.int .i64 cls, .int .i64 tag, .bool cons, .int .i64 len, .int .i64 size]) hb1 (by first | omega | (simp; omega) | simp)); have HB1 := hid (Below.trans (show Below w.heap.size w _ by (repeat (first | exact Below.refl _ _ | exact below_drewN _ | refine Below.drew ?_ | refine Below.alloc ?_ (by simp) _ | refine Below.setCell ?_ (by simp) _ | refine below_drewN' ?_ _))) (hb1.mono (by first | omega | (simp; omega) | simp))); have hz1 := hb1.size; simp at hz1; clear hb1 ho1)
      | (go_at_call 8; refine (keepTwin _ (ys ++ xs) _ HO1.out.sl (by first | omega | (simp; omega) | simp)).mono ?_; rintro e w2 ⟨v2, rfl, ho2, hb2⟩; have HO2 := hid ho2; have HX2 := hid (HX1.out.below hb2 HX1.out.lt); have HB2 := hid (HB1.out.trans (hb2.mono (by omega))); have hz2 := hb2.size; clear hb2 ho2)
      | (at_builtin; refine wpList_app _ rfl _ _ 22 rfl .u8 w1.heap.size 5 1 Try.underlying22 Try.infoU8 _ (ys ++ xs) ms rfl HO2.out _ rfl (HM.out.below HB2.out) (by unfold maxLen; simp; omega) (by simp; omega) (by omega) ?_; intro v3 w3 ho3 hg3 hb3 hn3; have HO3 := hid ho3; have HX3 := hid (HX2.out.below hb3 HX1.out.lt); have HB3 := hid (HB2.out.trans (hb3.mono (by omega))); have hz3 := hb3.size; clear ho3 hg3 hb3 hn3)
      | (go_at_call 12; refine (tlvOne' _ (ys ++ xs ++ ms) _ HO3.out.sl HU.out (by first | omega | (simp; omega) | simp) HO.out).mono ?_; rintro e w4 ⟨y, r, rfl, hoy, hor, hb4⟩; have HY := hid hoy; have HR := hid hor; have HX4 := hid (HX3.out.below hb4 HX3.out.lt); have HB4 := hid (HB3.out.trans (hb4.mono (by omega))); have hz4 := hb4.size; obtain ⟨k0, k1, k2, k3, k4⟩ := HX4.out.five; have hlt4 := HX4.out.lt; clear hoy hor hb4)
      | (go_at_call 15; have _t := tok; clear tok; refine (keepBytes _ _ xs xs _ (HY.out.sl.below (by (repeat (first | exact Below.refl _ _ | exact below_drewN _ | refine Below.drew ?_ | refine Below.alloc ?_ (by simp) _ | refine Below.setCell ?_ (by simp) _ | refine below_drewN' ?_ _)))) (HC.out.below (HB4.out.trans (by (repeat (first | exact Below.refl _ _ | exact below_drewN _ | refine Below.drew ?_ | refine Below.alloc ?_ (by simp; omega) _ | refine Below.alloc ?_ (by omega) _ | refine Below.setCell ?_ (by simp; omega) _ | refine below_drewN' ?_ _)))))).mono ?_; rw [eqL_self]; rintro e w5 ⟨rfl, n5, rfl⟩)
      | (go_at_call 15; have _t := tok2; clear tok2; refine (keepBytes _ _ ms ms _ (HR.out.sl.below (by (repeat (first | exact Below.refl _ _ | exact below_drewN _ | refine Below.drew ?_ | refine Below.alloc ?_ (by simp) _ | refine Below.setCell ?_ (by simp) _ | refine below_drewN' ?_ _)))) (HM.out.below (HB4.out.trans (by (repeat (first | exact Below.refl _ _ | exact below_drewN _ | refine Below.drew ?_ | refine Below.alloc ?_ (by simp; omega) _ | refine Below.alloc ?_ (by omega) _ | refine Below.setCell ?_ (by simp; omega) _ | refine below_drewN' ?_ _)))))).mono ?_; rw [eqL_self]; rintro e w6 ⟨rfl, n6, rfl⟩)
      | (go_at_call 18; refine (wakesOk _).mono ?_; rintro e w7 ⟨rfl, hb7⟩; have HB7 := hid (Below.trans (HB4.out.trans (by (repeat (first | exact Below.refl _ _ | exact below_drewN _ | refine Below.drew ?_ | refine Below.alloc ?_ (by simp; omega) _ | refine Below.alloc ?_ (by omega) _ | refine Below.setCell ?_ (by simp; omega) _ | refine below_drewN' ?_ _)))) (hb7.mono (by first | omega | (simp; omega) | simp)))))
    go_ret
    exact ⟨rfl, HB7.out⟩
  · have HW := hid (fun W hW => wrapBad h (.slice ac xs.length capc) xs W hW hok)
    obtain ⟨cls, tag, cons, len, size⟩ := h
    unfold Hd.val at HW ⊢
    dsimp only at HW ⊢
    clear hok
    go_enter Try.func6, Try.ntmps6
    go_wp2_with (first
      | (go_at_call 14; refine (HW.out _ (HC.out.below (by (repeat (first | exact Below.refl _ _ | exact below_drewN _ | refine Below.drew ?_ | refine Below.alloc ?_ (by simp) _ | refine Below.setCell ?_ (by simp) _ | refine below_drewN' ?_ _))))).mono ?_; rintro e w1 ⟨rfl, hb1⟩; have HB1 := hid (Below.trans (show Below w.heap.size w _ by (repeat (first | exact Below.refl _ _ | exact below_drewN _ | refine Below.drew ?_ | refine Below.alloc ?_ (by simp) _ | refine Below.setCell ?_ (by simp) _ | refine below_drewN' ?_ _))) (hb1.mono (by first | omega | (simp; omega) | simp))); have hz1 := hb1.size; simp at hz1; clear hb1)
      | (go_at_call 18; refine (wakesOk _).mono ?_; rintro e w7 ⟨rfl, hb7⟩; have HB7 := hid (Below.trans (HB1.out.trans (by (repeat (first | exact Below.refl _ _ | exact below_drewN _ | refine Below.drew ?_ | refine Below.alloc ?_ (by simp; omega) _ | refine Below.alloc ?_ (by omega) _ | refine Below.setCell ?_ (by simp; omega) _ | refine below_drewN' ?_ _)))) (hb7.mono (by first | omega | (simp; omega) | simp)))))
    go_ret
    exact ⟨rfl, HB7.out⟩

end Go.Proofs.Ytbdmnahkfmildaa
