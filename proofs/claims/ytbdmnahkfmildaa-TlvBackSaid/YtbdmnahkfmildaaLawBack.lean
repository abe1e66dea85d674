/- A header that is written is read, whatever stands behind it, and cut off it is none: the walk of the statement. For every input. -/
import Derived.Test.YtbdmnahkfmildaaTlv7
import Derived.Test.YtbdmnahkfmildaaTlvMath2
namespace Go.Proofs.Ytbdmnahkfmildaa
open Go.RowKit

theorem cut_ix (cut : Int) (n : Nat) (hn : 0 < n) (hl : n ≤ 100) : ∃ K : Nat, wrap64 ((IntKind.u64.wrap cut).tmod (n : Int)) = (K : Int) ∧ K < n := by
  have h0 : 0 ≤ IntKind.u64.wrap cut := by
    simp only [IntKind.wrap, IntKind.bits, IntKind.signed]
    simp
    omega
  obtain ⟨c, hc⟩ := Int.eq_ofNat_of_zero_le h0
  rw [hc]
  refine ⟨c % n, ?_, Nat.mod_lt _ hn⟩
  have := Nat.mod_lt c hn
  rw [Int.tmod_eq_emod_of_nonneg (by omega), wrap64_small _ (by omega) (by omega)]
  omega

theorem rd_back_cut (h : Hd) (hok : HdOk h) (n : Nat) (hn : n < (hdB h).length) : rd ((hdB h).take n) = (Hd.zero, 2) := by
  have hb := rd_back h [] hok
  have hu := u8_hdB hok
  rw [List.append_nil] at hb
  have e := List.take_append_drop n (hdB h)
  have h1 : (rd ((hdB h).take n ++ (hdB h).drop n)).2 = 0 := by rw [e, hb]
  refine rd_cut _ _ (hu.take n) (hu.drop n) h1 ?_
  rw [e, hb]
  simp
  omega

set_option maxHeartbeats 2000000 in
theorem walkBack (h : Hd) (vm : Value) (ms : List Int) (cut : Int) (w : World) (hm : Sl .u8 w vm ms) (hmu : U8 ms) (hcut : -9223372036854775808 ≤ cut ∧ cut ≤ 9223372036854775807) :
    Calls Try.prog 4 #[h.val, vm, .int .i64 cut] w fun e w' => e = .returned (.bool true) ∧ Below w.heap.size w w' := by
  obtain ⟨hcut0, hcut1⟩ := hcut
  have HM := hid hm
  have hlm := hm.len
  obtain ⟨am, capm, rfl, -, -, -⟩ := hm
  by_cases h2 : 700 < ms.length
  · obtain ⟨cls, tag, cons, len, size⟩ := h
    unfold Hd.val
    dsimp only
    go_enter Try.func4, Try.ntmps4
    go_wp2
    go_ret
    exact ⟨rfl, by (repeat (first | exact Below.refl _ _ | exact below_drewN _ | refine Below.drew ?_ | refine Below.alloc ?_ (by simp) _ | refine Below.setCell ?_ (by simp) _ | refine below_drewN' ?_ _))⟩
  by_cases hok : HdOk h
  · have hr := rd_back h ms hok
    have hrc := rd_back_cut h hok
    have hl := hdB_len hok
    have hu8 := u8_hdB hok
    have hw : ∀ W, _ := fun W => bytesOk h W hok
    have hne : 0 < (hdB h).length := by
      simp only [hdB, List.length_append]
      have : 0 < (idB h).length := by unfold idB; split <;> simp
      omega
    obtain ⟨ys, hys⟩ : ∃ ys, ys = hdB h := ⟨_, rfl⟩
    rw [← hys] at hr hrc hl hu8 hw hne
    obtain ⟨L, hL⟩ : ∃ L : Int, L = (ys.length : Int) := ⟨_, rfl⟩
    rw [← hL] at hr
    obtain ⟨cls, tag, cons, len, size⟩ := h
    unfold Hd.val at hw ⊢
    dsimp only at hr hw ⊢
    have HR := hid hr
    have HRC := hid hrc
    have HU0 := hid hu8
    have HU := hid (hu8.append hmu)
    have HW := hid hw
    have HL := hid hL
    clear hys hL hr hrc hu8 hw hok hmu
    have tok : True := trivial
    obtain ⟨K, hK, hK1⟩ := cut_ix cut ys.length hne (by omega)
    have hK0 : (0 : Int) ≤ (K : Int) := by omega
    have HKK := hid hK
    clear hK
    have hn0 : ((ys.length : Int) == 0) = false := by simp; intro h; rw [h] at hne; simp at hne
    go_enter Try.func4, Try.ntmps4
    go_wp2_with (first
      | (go_at_call 11; refine (HW.out _).mono ?_; rintro e w1 ⟨v1, rfl, ho1, hb1⟩; have HO1 := hid ho1; have HX1 := hid (Box.below (Box.made w 24 [.int .i64 cls, .int .i64 tag, .bool cons, .int .i64 len, .int .i64 size]) hb1 (by first | omega | (simp; omega) | simp)); have HB1 := hid (Below.trans (show Below w.heap.size w _ by (repeat (first | exact Below.refl _ _ | exact below_drewN _ | refine Below.drew ?_ | refine Below.alloc ?_ (by simp) _ | refine Below.setCell ?_ (by simp) _ | refine below_drewN' ?_ _))) (hb1.mono (by first | omega | (simp; omega) | simp))); have hz1 := hb1.size; simp at hz1; obtain ⟨a1, cap1, rfl, -, -, -⟩ := ho1.sl; clear hb1 ho1)
      | (go_at_call 8; refine (keepTwin _ ys _ HO1.out.sl (by first | omega | (simp; omega) | simp)).mono ?_; rintro e w2 ⟨v2, rfl, ho2, hb2⟩; have HO2 := hid ho2; have HB12 := hid hb2; have HX2 := hid (HX1.out.below hb2 HX1.out.lt); have HB2 := hid (HB1.out.trans (hb2.mono (by omega))); have hz2 := hb2.size; clear hb2 ho2)
      | (at_builtin; refine wpList_app _ rfl _ _ 22 rfl .u8 w1.heap.size 5 1 Try.underlying22 Try.infoU8 _ ys ms rfl HO2.out _ rfl (HM.out.below HB2.out) (by unfold maxLen; simp; omega) (by simp; omega) (by omega) ?_; intro v3 w3 ho3 hg3 hb3 hn3; have HO3 := hid ho3; have HS13 := hid (HO1.out.sl.below (Below.trans HB12.out hb3)); have HX3 := hid (HX2.out.below hb3 HX1.out.lt); have HB3 := hid (HB2.out.trans (hb3.mono (by omega))); have hz3 := hb3.size; clear ho3 hg3 hb3 hn3)
      | (go_at_call 9; have _t := tok; clear tok; refine (readHead' _ (ys ++ ms) _ HO3.out.sl HU.out HR.out).mono ?_; rintro e w4 ⟨rfl, hb4⟩; have HS14 := hid (HS13.out.below hb4); have HX4 := hid (HX3.out.below hb4 HX3.out.lt); have HB4 := hid (HB3.out.trans (hb4.mono (by omega))); have hz4 := hb4.size; clear hb4)
      | (with_reducible refine at_to ?_; refine wpList_to _ rfl _ _ 22 rfl .u8 5 1 Try.underlying22 Try.infoU8 _ ys rfl (HS14.out.below (by (repeat (first | exact Below.refl _ _ | exact below_drewN _ | refine Below.drew ?_ | refine Below.alloc ?_ (by simp) _ | refine Below.setCell ?_ (by simp) _ | refine below_drewN' ?_ _)))) _ (wrap64 ((IntKind.u64.wrap cut).tmod (ys.length : Int))) rfl (by rw [HKK.out]; exact hK0) (by rw [HKK.out]; omega) ?_; intro v5 hv5; rw [HKK.out, Int.toNat_natCast] at hv5; have HV5 := hid hv5; clear hv5)
      | (go_at_call 9; refine (readHead' (c := 0) (t := 0) (b := false) (l := 0) (s := 0) (E := 2) v5 (ys.take K) _ HV5.out (HU0.out.take _) (HRC.out K hK1)).mono ?_; rintro e w5 ⟨rfl, hb5⟩; have HX5 := hid (Box.below (HX4.out.alloc _) hb5 (by have := HX4.out.lt; first | omega | (simp; omega) | simp)); have HZ5 := hid (Box.below (Box.made w4 24 [.int .i64 cls, .int .i64 tag, .bool cons, .int .i64 len, .int .i64 L]) hb5 (by first | omega | (simp; omega) | simp)); have HB5 := hid (Below.trans (HB4.out.trans (by (repeat (first | exact Below.refl _ _ | exact below_drewN _ | refine Below.drew ?_ | refine Below.alloc ?_ (by simp; omega) _ | refine Below.alloc ?_ (by omega) _ | refine Below.setCell ?_ (by simp; omega) _ | refine below_drewN' ?_ _)))) (hb5.mono (by first | omega | (simp; omega) | simp))); have hz5 := hb5.size; simp at hz5; obtain ⟨k0, k1, k2, k3, k4⟩ := HX5.out.five; obtain ⟨j0, j1, j2, j3, j4⟩ := HZ5.out.five; have hl1 := HX5.out.lt; have hl2 := HZ5.out.lt; have hLq : (L == (ys.length : Int)) = true := (by simp [HL.out]); clear hb5)
      | (go_at_call 18; refine (wakesOk _).mono ?_; rintro e w7 ⟨rfl, hb7⟩; have HB7 := hid (Below.trans (HB5.out.trans (by (repeat (first | exact Below.refl _ _ | exact below_drewN _ | refine Below.drew ?_ | refine Below.alloc ?_ (by simp; omega) _ | refine Below.alloc ?_ (by omega) _ | refine Below.setCell ?_ (by simp; omega) _ | refine below_drewN' ?_ _)))) (hb7.mono (by first | omega | (simp; omega) | simp)))))
    go_ret
    exact ⟨rfl, HB7.out⟩
  · have HW := hid (fun W => bytesBad h W hok)
    obtain ⟨cls, tag, cons, len, size⟩ := h
    unfold Hd.val at HW ⊢
    dsimp only at HW ⊢
    clear hok
    go_enter Try.func4, Try.ntmps4
    go_wp2_with (first
      | (go_at_call 11; refine (HW.out _).mono ?_; rintro e w1 ⟨rfl, hb1⟩; have HB1 := hid (Below.trans (show Below w.heap.size w _ by (repeat (first | exact Below.refl _ _ | exact below_drewN _ | refine Below.drew ?_ | refine Below.alloc ?_ (by simp) _ | refine Below.setCell ?_ (by simp) _ | refine below_drewN' ?_ _))) (hb1.mono (by first | omega | (simp; omega) | simp))); have hz1 := hb1.size; simp at hz1; clear hb1)
      | (go_at_call 18; refine (wakesOk _).mono ?_; rintro e w7 ⟨rfl, hb7⟩; have HB7 := hid (Below.trans (HB1.out.trans (by (repeat (first | exact Below.refl _ _ | exact below_drewN _ | refine Below.drew ?_ | refine Below.alloc ?_ (by simp; omega) _ | refine Below.alloc ?_ (by omega) _ | refine Below.setCell ?_ (by simp; omega) _ | refine below_drewN' ?_ _)))) (hb7.mono (by first | omega | (simp; omega) | simp)))))
    go_ret
    exact ⟨rfl, HB7.out⟩

end Go.Proofs.Ytbdmnahkfmildaa
