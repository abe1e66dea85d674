/- Contracts of the document's own answers for headers: whether a header is one, its bytes, a content wrapped. -/
import Derived.Test.YtgjjncoelbhpeaaTlvOne
import Derived.Test.YtgjjncoelbhpeaaTlvMath2
import Derived.Deep.Cut
namespace Go.Proofs.Ytgjjncoelbhpeaa
open Go.RowKit

theorem sept_len (n : Nat) (h : n ≤ 9223372036854775807) : (sept n).length ≤ 11 := by
  have := septHi_le 10 (n / 128) (by omega)
  simp [sept]; omega

set_option maxHeartbeats 1000000 in
theorem refSept (n : Int) (w : World) (n0 : 0 ≤ n) (n1 : n ≤ 9223372036854775807) :
    Calls Try.prog 32 #[.int .i64 n] w fun e w' => ∃ v', e = .returned v' ∧ Own .u8 5 w.heap.size w' v' (sept n.toNat) ∧ Below w.heap.size w w' := by
  have hL := sept_len n.toNat (by omega)
  go_enter Try.func32, Try.ntmps32
  go_wp2
  go_loopw [0, 3] (fun nv bv wr => ∃ (m : Nat) (bs : List Int), nv = .int .i64 m ∧ m ≤ 9223372036854775807 ∧ Hid (Own .u8 5 w.heap.size wr bv bs) ∧ Hid (septHi m ++ bs = sept n.toNat) ∧ bs.length ≤ 11 ∧ Hid (Below w.heap.size w wr) ∧ w.heap.size ≤ wr.heap.size) (fun nv _ _ => (intOf nv).toNat)
  case atStart =>
    refine ⟨n.toNat / 128, [n % 128], by congr 1; omega, by omega, lit_own rfl (Nat.le_refl _) rfl rfl (by simp), ?_, by simp, by (repeat (first | exact Below.refl _ _ | exact below_drewN _ | refine Below.drew ?_ | refine Below.alloc ?_ (by simp) _ | refine Below.setCell ?_ (by simp) _ | refine below_drewN' ?_ _)), by simp⟩
    show _ = _
    rw [sept]
    congr 2
    omega
  case round =>
    obtain ⟨m, bs, rfl, hm, hown, heq, hlen, hbel, hsz⟩ := hrel
    rcases Nat.eq_zero_or_pos m with h0 | h0
    · subst h0
      go_wp2
      go_ret
      refine ⟨_, rfl, ?_, hbel.out⟩
      have := heq.out
      rw [septHi_zero, List.nil_append] at this
      rw [← this]
      exact hown.out
    · have e1 : (m : Int) / 128 = ((m / 128 : Nat) : Int) := by omega
      have e2 : 128 + (m : Int) % 128 = 128 + ((m % 128 : Nat) : Int) := by omega
      have E1 := hid e1
      have E2 := hid e2
      clear e1 e2
      have hp : (0 : Int) < (m : Int) := by omega
      go_wp2_with (at_builtin; refine wpList_app _ rfl _ _ 22 rfl .u8 w.heap.size 5 1 Try.underlying22 Try.infoU8 _ [128 + (m : Int) % 128] bs rfl (lit_own rfl hsz rfl rfl (by simp)) _ rfl (hown.out.sl.below (by (repeat (first | exact Below.refl _ _ | exact below_drewN _ | refine Below.drew ?_ | refine Below.alloc ?_ (by simp) _ | refine Below.setCell ?_ (by simp) _ | refine below_drewN' ?_ _)))) (by unfold maxLen; simp; omega) (by simp; omega) (by first | omega | (simp; omega) | simp) ?_; intro v2 w2 ho2 hg2 hb2 hn2)
      have hz2 := hg2.size
      simp at hz2
      have hl2 : (septHi m ++ bs).length = (sept n.toNat).length := by rw [heq.out]
      rw [septHi_pos (by omega)] at hl2
      simp at hl2
      go_roundw
      case rel =>
        refine ⟨m / 128, [128 + (m : Int) % 128] ++ bs, by rw [E1.out], by omega, ho2, ?_, by simp; omega, (hbel.out.trans ?_).trans hb2, by omega⟩
        · show _ = _
          rw [← heq.out, septHi_pos (n := m) (by omega), E2.out]
          simp
        · (repeat (first | exact Below.refl _ _ | exact below_drewN _ | refine Below.drew ?_ | refine Below.alloc ?_ (by simp; omega) _ | refine Below.alloc ?_ (by omega) _ | refine Below.setCell ?_ (by simp; omega) _ | refine below_drewN' ?_ _))
      case measure =>
        rw [E1.out]
        simp [intOf]
        omega

set_option maxHeartbeats 2000000 in
theorem refHeadBytes (h : Hd) (w : World) (hok : HdOk h) :
    Calls Try.prog 27 #[h.val] w fun e w' => ∃ v', e = .returned v' ∧ Own .u8 5 w.heap.size w' v' (hdB h) ∧ Below w.heap.size w w' := by
  have hlid : (idB h).length ≤ 6 := by
    obtain ⟨_, ⟨t0, t1⟩, _⟩ := hok
    unfold idB
    split
    · simp
    · have := septHi_le 4 (h.tag.toNat / 128) (by omega)
      simp [sept]; omega
  obtain ⟨cls, tag, cons, len, size⟩ := h
  obtain ⟨⟨c0, c1⟩, ⟨t0, t1⟩, ⟨l0, l1⟩⟩ := hok
  dsimp only at c0 c1 t0 t1 l0 l1
  obtain ⟨ys, hys⟩ : ∃ ys, ys = idB ⟨cls, tag, cons, len, size⟩ := ⟨_, rfl⟩
  have HY := hid hys
  unfold hdB
  rw [← hys] at hlid ⊢
  dsimp only
  clear hys
  obtain ⟨F, hF⟩ : ∃ F, F = cls * 64 + (if cons = true then 32 else 0) := ⟨_, rfl⟩
  have hFF : F = firstB ⟨cls, tag, cons, len, size⟩ := by rw [hF]; simp only [firstB]; omega
  have qc : cons = true → cls * 64 + 32 = F := by intro hc; rw [hF, hc]; simp
  have q0 : cons = false → cls * 64 = F := by intro hc; rw [hF, hc]; simp
  have F01 : 0 ≤ F ∧ F ≤ 224 := by rw [hF]; split <;> omega
  obtain ⟨F0, F1⟩ := F01
  have HFF := hid hFF
  clear hF hFF
  by_cases ht : tag < 31
  · have hyq : ys = [F + tag] := by rw [HY.out]; unfold idB; rw [if_pos ht, HFF.out]
    have HYQ := hid hyq
    clear hyq
    cases cons
    · have q3 := q0 rfl
      clear qc q0
      unfold Hd.val
      dsimp only
      go_enter Try.func27, Try.ntmps27
      go_upto_region 8 with (fail)
      have HXB := hid ((Box.made w 35 [.int .i64 cls, .int .i64 tag, .bool false, .int .i64 len, .int .i64 size]).alloc (.cells #[.int .u8 (F + tag)] 5))
      have HBV : Hid (Below w.heap.size w ((w.alloc (.cells #[.int .i64 cls, .int .i64 tag, .bool false, .int .i64 len, .int .i64 size] 35)).alloc (.cells #[.int .u8 (F + tag)] 5))) := hid (by (repeat (first | exact Below.refl _ _ | exact below_drewN _ | refine Below.drew ?_ | refine Below.alloc ?_ (by simp) _ | refine Below.setCell ?_ (by simp) _ | refine below_drewN' ?_ _)))
      have HVB : Hid (Own .u8 5 w.heap.size ((w.alloc (.cells #[.int .i64 cls, .int .i64 tag, .bool false, .int .i64 len, .int .i64 size] 35)).alloc (.cells #[.int .u8 (F + tag)] 5)) (.slice (some ⟨w.heap.size + 1, 0, none⟩) 1 1) ys) := hid (by rw [HYQ.out]; exact lit_own (by simp) (by simp) rfl rfl (by simp))
      generalize (w.alloc (.cells #[.int .i64 cls, .int .i64 tag, .bool false, .int .i64 len, .int .i64 size] 35)).alloc (.cells #[.int .u8 (F + tag)] 5) = W1 at HXB HBV HVB ⊢
      generalize Value.slice (some ⟨w.heap.size + 1, 0, none⟩) 1 1 = vb at HVB ⊢
      have HVL := hid HVB.out.lt'
      have hz1 := HBV.out.size
      have hxB := HXB.out.cell 3
      by_cases hl : len < 128
      · go_wp2_with (at_builtin; refine wpList_app _ rfl _ _ 22 rfl .u8 w.heap.size 5 1 Try.underlying22 Try.infoU8 _ ys [len] rfl (HVB.out.below (by (repeat (first | exact Below.refl _ _ | exact below_drewN _ | refine Below.drew ?_ | refine Below.alloc ?_ (by simp) _ | refine Below.setCell ?_ (by simp) _ | refine below_drewN' ?_ _)))) _ rfl (one_sl (by simp)) (by unfold maxLen; simp; omega) (by simp; omega) (by first | omega | (simp; omega) | simp) ?_; intro v3 w3 ho3 hg3 hb3 hn3)
        go_ret
        refine ⟨_, rfl, by unfold lenB; rw [if_pos hl]; exact ho3, Below.trans (HBV.out.trans ?_) hb3⟩
        (repeat (first | exact Below.refl _ _ | exact below_drewN _ | refine Below.drew ?_ | refine Below.alloc ?_ (by simp; omega) _ | refine Below.alloc ?_ (by omega) _ | refine Below.setCell ?_ (by simp; omega) _ | refine below_drewN' ?_ _))
      · have hlb : lenB len = (128 + ((be len.toNat).length : Int)) :: be len.toNat := by unfold lenB; rw [if_neg hl]
        have hbl := be_len 4 len.toNat (by omega)
        have HLN := hid hlb
        clear hlb
        go_wp2_with (fail)
        go_loopw [5, 6] (fun lv nv wr => ∃ (m : Nat) (ls : List Int), nv = .int .i64 m ∧ m ≤ 2147483647 ∧ Hid (Own .u8 5 W1.heap.size wr lv ls) ∧ Hid (Own .u8 5 w.heap.size wr vb ys) ∧ Hid (be m ++ ls = be len.toNat) ∧ ls.length ≤ 4 ∧ Hid (Below w.heap.size w wr) ∧ W1.heap.size ≤ wr.heap.size) (fun _ nv _ => (intOf nv).toNat)
        case atStart => exact ⟨len.toNat, [], by congr 1; omega, by omega, Own.nil _ _ _ _, HVB.out, by simp [Hid], by simp, HBV.out, Nat.le_refl _⟩
        case round =>
          obtain ⟨m, ls, rfl, hm, hown, hvb, heq, hlen, hbel, hsz⟩ := hrel
          rcases Nat.eq_zero_or_pos m with h0 | h0
          · subst h0
            have hq := heq.out
            rw [be_zero, List.nil_append] at hq
            have HQ := hid hq
            clear hq
            obtain ⟨al, capl, hal, -, -, -⟩ := hown.out.sl
            subst hal
            have tok : True := trivial
            go_wp2_with (first
              | (at_builtin; have _t := tok; clear tok; refine wpList_app _ rfl _ _ 22 rfl .u8 w.heap.size 5 1 Try.underlying22 Try.infoU8 _ ys [128 + (ls.length : Int)] rfl (hvb.out.below (by (repeat (first | exact Below.refl _ _ | exact below_drewN _ | refine Below.drew ?_ | refine Below.alloc ?_ (by simp) _ | refine Below.setCell ?_ (by simp) _ | refine below_drewN' ?_ _)))) _ rfl (one_sl (by simp)) (by unfold maxLen; simp; omega) (by simp; omega) (by first | omega | (simp; omega) | simp) ?_; intro v3 w3 ho3 hg3 hb3 hn3; have HO3 := hid ho3; have HL3 := hid (Own.apart (hown.out.alloc _) HVL.out hg3); have HB3 := hid (Below.trans (hbel.out.trans (show Below w.heap.size wr _ by (repeat (first | exact Below.refl _ _ | exact below_drewN _ | refine Below.drew ?_ | refine Below.alloc ?_ (by simp; omega) _ | refine Below.alloc ?_ (by omega) _ | refine Below.setCell ?_ (by simp; omega) _ | refine below_drewN' ?_ _)))) hb3); have hz3 := hb3.size; simp at hz3)
              | (at_builtin; refine wpList_app _ rfl _ _ 22 rfl .u8 w.heap.size 5 1 Try.underlying22 Try.infoU8 _ (ys ++ [128 + (ls.length : Int)]) ls rfl HO3.out _ rfl HL3.out.sl (by unfold maxLen; simp; omega) (by simp; omega) (by first | omega | (simp; omega) | simp) ?_; intro v4 w4 ho4 hg4 hb4 hn4))
            go_ret
            refine ⟨_, rfl, ?_, HB3.out.trans hb4⟩
            rw [HLN.out, ← HQ.out]
            simpa using ho4
          · have e1 : (m : Int) / 256 = ((m / 256 : Nat) : Int) := by omega
            have e2 : (m : Int) % 256 = ((m % 256 : Nat) : Int) := by omega
            have E1 := hid e1
            have E2 := hid e2
            clear e1 e2
            have hp : (0 : Int) < (m : Int) := by omega
            go_wp2_with (at_builtin; refine wpList_app _ rfl _ _ 22 rfl .u8 wr.heap.size 5 1 Try.underlying22 Try.infoU8 _ [(m : Int) % 256] ls rfl (lit_own rfl (Nat.le_refl _) rfl rfl (by simp)) _ rfl (hown.out.sl.below (by (repeat (first | exact Below.refl _ _ | exact below_drewN _ | refine Below.drew ?_ | refine Below.alloc ?_ (by simp) _ | refine Below.setCell ?_ (by simp) _ | refine below_drewN' ?_ _)))) (by unfold maxLen; simp; omega) (by simp; omega) (by first | omega | (simp; omega) | simp) ?_; intro v2 w2 ho2 hg2 hb2 hn2)
            have hz2 := hg2.size
            simp at hz2
            have hl2 : (be m ++ ls).length = (be len.toNat).length := by rw [heq.out]
            rw [be_pos (by omega)] at hl2
            simp at hl2
            have hbr : Below wr.heap.size wr w2 := Below.trans (by (repeat (first | exact Below.refl _ _ | exact below_drewN _ | refine Below.drew ?_ | refine Below.alloc ?_ (by simp) _ | refine Below.setCell ?_ (by simp) _ | refine below_drewN' ?_ _))) hb2
            go_roundw
            case rel =>
              refine ⟨m / 256, [(m : Int) % 256] ++ ls, by rw [E1.out], by omega, ho2.mono (by omega), hvb.out.below hbr, ?_, by simp; omega, hbel.out.trans (hbr.mono (by omega)), by omega⟩
              show _ = _
              rw [← heq.out, be_pos (n := m) (by omega), E2.out]
              simp
            case measure =>
              rw [E1.out]
              simp [intOf]
              omega
    · have q3 := qc rfl
      clear qc q0
      unfold Hd.val
      dsimp only
      go_enter Try.func27, Try.ntmps27
      go_upto_region 8 with (fail)
      have HXB := hid ((Box.made w 35 [.int .i64 cls, .int .i64 tag, .bool true, .int .i64 len, .int .i64 size]).alloc (.cells #[.int .u8 (F + tag)] 5))
      have HBV : Hid (Below w.heap.size w ((w.alloc (.cells #[.int .i64 cls, .int .i64 tag, .bool true, .int .i64 len, .int .i64 size] 35)).alloc (.cells #[.int .u8 (F + tag)] 5))) := hid (by (repeat (first | exact Below.refl _ _ | exact below_drewN _ | refine Below.drew ?_ | refine Below.alloc ?_ (by simp) _ | refine Below.setCell ?_ (by simp) _ | refine below_drewN' ?_ _)))
      have HVB : Hid (Own .u8 5 w.heap.size ((w.alloc (.cells #[.int .i64 cls, .int .i64 tag, .bool true, .int .i64 len, .int .i64 size] 35)).alloc (.cells #[.int .u8 (F + tag)] 5)) (.slice (some ⟨w.heap.size + 1, 0, none⟩) 1 1) ys) := hid (by rw [HYQ.out]; exact lit_own (by simp) (by simp) rfl rfl (by simp))
      generalize (w.alloc (.cells #[.int .i64 cls, .int .i64 tag, .bool true, .int .i64 len, .int .i64 size] 35)).alloc (.cells #[.int .u8 (F + tag)] 5) = W1 at HXB HBV HVB ⊢
      generalize Value.slice (some ⟨w.heap.size + 1, 0, none⟩) 1 1 = vb at HVB ⊢
      have HVL := hid HVB.out.lt'
      have hz1 := HBV.out.size
      have hxB := HXB.out.cell 3
      by_cases hl : len < 128
      · go_wp2_with (at_builtin; refine wpList_app _ rfl _ _ 22 rfl .u8 w.heap.size 5 1 Try.underlying22 Try.infoU8 _ ys [len] rfl (HVB.out.below (by (repeat (first | exact Below.refl _ _ | exact below_drewN _ | refine Below.drew ?_ | refine Below.alloc ?_ (by simp) _ | refine Below.setCell ?_ (by simp) _ | refine below_drewN' ?_ _)))) _ rfl (one_sl (by simp)) (by unfold maxLen; simp; omega) (by simp; omega) (by first | omega | (simp; omega) | simp) ?_; intro v3 w3 ho3 hg3 hb3 hn3)
        go_ret
        refine ⟨_, rfl, by unfold lenB; rw [if_pos hl]; exact ho3, Below.trans (HBV.out.trans ?_) hb3⟩
        (repeat (first | exact Below.refl _ _ | exact below_drewN _ | refine Below.drew ?_ | refine Below.alloc ?_ (by simp; omega) _ | refine Below.alloc ?_ (by omega) _ | refine Below.setCell ?_ (by simp; omega) _ | refine below_drewN' ?_ _))
      · have hlb : lenB len = (128 + ((be len.toNat).length : Int)) :: be len.toNat := by unfold lenB; rw [if_neg hl]
        have hbl := be_len 4 len.toNat (by omega)
        have HLN := hid hlb
        clear hlb
        go_wp2_with (fail)
        go_loopw [5, 6] (fun lv nv wr => ∃ (m : Nat) (ls : List Int), nv = .int .i64 m ∧ m ≤ 2147483647 ∧ Hid (Own .u8 5 W1.heap.size wr lv ls) ∧ Hid (Own .u8 5 w.heap.size wr vb ys) ∧ Hid (be m ++ ls = be len.toNat) ∧ ls.length ≤ 4 ∧ Hid (Below w.heap.size w wr) ∧ W1.heap.size ≤ wr.heap.size) (fun _ nv _ => (intOf nv).toNat)
        case atStart => exact ⟨len.toNat, [], by congr 1; omega, by omega, Own.nil _ _ _ _, HVB.out, by simp [Hid], by simp, HBV.out, Nat.le_refl _⟩
        case round =>
          obtain ⟨m, ls, rfl, hm, hown, hvb, heq, hlen, hbel, hsz⟩ := hrel
          rcases Nat.eq_zero_or_pos m with h0 | h0
          · subst h0
            have hq := heq.out
            rw [be_zero, List.nil_append] at hq
            have HQ := hid hq
            clear hq
            obtain ⟨al, capl, hal, -, -, -⟩ := hown.out.sl
            subst hal
            have tok : True := trivial
            go_wp2_with (first
              | (at_builtin; have _t := tok; clear tok; refine wpList_app _ rfl _ _ 22 rfl .u8 w.heap.size 5 1 Try.underlying22 Try.infoU8 _ ys [128 + (ls.length : Int)] rfl (hvb.out.below (by (repeat (first | exact Below.refl _ _ | exact below_drewN _ | refine Below.drew ?_ | refine Below.alloc ?_ (by simp) _ | refine Below.setCell ?_ (by simp) _ | refine below_drewN' ?_ _)))) _ rfl (one_sl (by simp)) (by unfold maxLen; simp; omega) (by simp; omega) (by first | omega | (simp; omega) | simp) ?_; intro v3 w3 ho3 hg3 hb3 hn3; have HO3 := hid ho3; have HL3 := hid (Own.apart (hown.out.alloc _) HVL.out hg3); have HB3 := hid (Below.trans (hbel.out.trans (show Below w.heap.size wr _ by (repeat (first | exact Below.refl _ _ | exact below_drewN _ | refine Below.drew ?_ | refine Below.alloc ?_ (by simp; omega) _ | refine Below.alloc ?_ (by omega) _ | refine Below.setCell ?_ (by simp; omega) _ | refine below_drewN' ?_ _)))) hb3); have hz3 := hb3.size; simp at hz3)
              | (at_builtin; refine wpList_app _ rfl _ _ 22 rfl .u8 w.heap.size 5 1 Try.underlying22 Try.infoU8 _ (ys ++ [128 + (ls.length : Int)]) ls rfl HO3.out _ rfl HL3.out.sl (by unfold maxLen; simp; omega) (by simp; omega) (by first | omega | (simp; omega) | simp) ?_; intro v4 w4 ho4 hg4 hb4 hn4))
            go_ret
            refine ⟨_, rfl, ?_, HB3.out.trans hb4⟩
            rw [HLN.out, ← HQ.out]
            simpa using ho4
          · have e1 : (m : Int) / 256 = ((m / 256 : Nat) : Int) := by omega
            have e2 : (m : Int) % 256 = ((m % 256 : Nat) : Int) := by omega
            have E1 := hid e1
            have E2 := hid e2
            clear e1 e2
            have hp : (0 : Int) < (m : Int) := by omega
            go_wp2_with (at_builtin; refine wpList_app _ rfl _ _ 22 rfl .u8 wr.heap.size 5 1 Try.underlying22 Try.infoU8 _ [(m : Int) % 256] ls rfl (lit_own rfl (Nat.le_refl _) rfl rfl (by simp)) _ rfl (hown.out.sl.below (by (repeat (first | exact Below.refl _ _ | exact below_drewN _ | refine Below.drew ?_ | refine Below.alloc ?_ (by simp) _ | refine Below.setCell ?_ (by simp) _ | refine below_drewN' ?_ _)))) (by unfold maxLen; simp; omega) (by simp; omega) (by first | omega | (simp; omega) | simp) ?_; intro v2 w2 ho2 hg2 hb2 hn2)
            have hz2 := hg2.size
            simp at hz2
            have hl2 : (be m ++ ls).length = (be len.toNat).length := by rw [heq.out]
            rw [be_pos (by omega)] at hl2
            simp at hl2
            have hbr : Below wr.heap.size wr w2 := Below.trans (by (repeat (first | exact Below.refl _ _ | exact below_drewN _ | refine Below.drew ?_ | refine Below.alloc ?_ (by simp) _ | refine Below.setCell ?_ (by simp) _ | refine below_drewN' ?_ _))) hb2
            go_roundw
            case rel =>
              refine ⟨m / 256, [(m : Int) % 256] ++ ls, by rw [E1.out], by omega, ho2.mono (by omega), hvb.out.below hbr, ?_, by simp; omega, hbel.out.trans (hbr.mono (by omega)), by omega⟩
              show _ = _
              rw [← heq.out, be_pos (n := m) (by omega), E2.out]
              simp
            case measure =>
              rw [E1.out]
              simp [intOf]
              omega
  · have hsl := sept_len tag.toNat (by omega)
    cases cons
    · have q3 := q0 rfl
      clear qc q0
      unfold Hd.val
      dsimp only
      go_enter Try.func27, Try.ntmps27
      have tok0 : True := trivial
      go_upto_region 8 with (first
        | (go_at_call 32; refine (refSept tag _ (by omega) (by omega)).mono ?_; rintro e w0 ⟨v0, rfl, ho0, hb0⟩; have HO0 := hid ho0; have HX0 := hid (Box.below ((Box.made w 35 [.int .i64 cls, .int .i64 tag, .bool false, .int .i64 len, .int .i64 size]).alloc (.cells #[.int .u8 (F + 31)] 5)) hb0 (by simp; omega)); have HLB := hid ((lit_own (k := .u8) (xs := [F + 31]) (e := 5) (base := w.heap.size) (w := w.alloc (.cells #[.int .i64 cls, .int .i64 tag, .bool false, .int .i64 len, .int .i64 size] 35)) (n := w.heap.size + 1) (len := 1) (by simp) (by simp) rfl rfl (by simp)).below hb0); have HB0 := hid (Below.trans (show Below w.heap.size w _ by (repeat (first | exact Below.refl _ _ | exact below_drewN _ | refine Below.drew ?_ | refine Below.alloc ?_ (by simp) _ | refine Below.setCell ?_ (by simp) _ | refine below_drewN' ?_ _))) (hb0.mono (by first | omega | (simp; omega) | simp))); have hz0 := hb0.size; simp at hz0; clear ho0 hb0)
        | (at_builtin; refine wpList_app _ rfl _ _ 22 rfl .u8 w.heap.size 5 1 Try.underlying22 Try.infoU8 _ [F + 31] (sept tag.toNat) rfl HLB.out _ rfl HO0.out.sl (by unfold maxLen; simp; omega) (by simp; omega) (by first | omega | (simp; omega) | simp) ?_; intro vb W1 ho1 hg1 hb1 hn1; have HVB := hid ho1; have HXB := hid (Box.grown HX0.out HLB.out hg1 (by decide)); have HBV := hid (HB0.out.trans hb1); clear hn1 hb1 hg1 ho1))
      have hyq : [F + 31] ++ sept tag.toNat = ys := by rw [HY.out]; unfold idB; rw [if_neg (by dsimp only; omega), HFF.out]; rfl
      rw [hyq] at HVB
      clear hyq
      have HVL := hid HVB.out.lt'
      have hz1 := HBV.out.size
      have hxB := HXB.out.cell 3
      by_cases hl : len < 128
      · go_wp2_with (at_builtin; refine wpList_app _ rfl _ _ 22 rfl .u8 w.heap.size 5 1 Try.underlying22 Try.infoU8 _ ys [len] rfl (HVB.out.below (by (repeat (first | exact Below.refl _ _ | exact below_drewN _ | refine Below.drew ?_ | refine Below.alloc ?_ (by simp) _ | refine Below.setCell ?_ (by simp) _ | refine below_drewN' ?_ _)))) _ rfl (one_sl (by simp)) (by unfold maxLen; simp; omega) (by simp; omega) (by first | omega | (simp; omega) | simp) ?_; intro v3 w3 ho3 hg3 hb3 hn3)
        go_ret
        refine ⟨_, rfl, by unfold lenB; rw [if_pos hl]; exact ho3, Below.trans (HBV.out.trans ?_) hb3⟩
        (repeat (first | exact Below.refl _ _ | exact below_drewN _ | refine Below.drew ?_ | refine Below.alloc ?_ (by simp; omega) _ | refine Below.alloc ?_ (by omega) _ | refine Below.setCell ?_ (by simp; omega) _ | refine below_drewN' ?_ _))
      · have hlb : lenB len = (128 + ((be len.toNat).length : Int)) :: be len.toNat := by unfold lenB; rw [if_neg hl]
        have hbl := be_len 4 len.toNat (by omega)
        have HLN := hid hlb
        clear hlb
        go_wp2_with (fail)
        go_loopw [5, 6] (fun lv nv wr => ∃ (m : Nat) (ls : List Int), nv = .int .i64 m ∧ m ≤ 2147483647 ∧ Hid (Own .u8 5 W1.heap.size wr lv ls) ∧ Hid (Own .u8 5 w.heap.size wr vb ys) ∧ Hid (be m ++ ls = be len.toNat) ∧ ls.length ≤ 4 ∧ Hid (Below w.heap.size w wr) ∧ W1.heap.size ≤ wr.heap.size) (fun _ nv _ => (intOf nv).toNat)
        case atStart => exact ⟨len.toNat, [], by congr 1; omega, by omega, Own.nil _ _ _ _, HVB.out, by simp [Hid], by simp, HBV.out, Nat.le_refl _⟩
        case round =>
          obtain ⟨m, ls, rfl, hm, hown, hvb, heq, hlen, hbel, hsz⟩ := hrel
          rcases Nat.eq_zero_or_pos m with h0 | h0
          · subst h0
            have hq := heq.out
            rw [be_zero, List.nil_append] at hq
            have HQ := hid hq
            clear hq
            obtain ⟨al, capl, hal, -, -, -⟩ := hown.out.sl
            subst hal
            have tok : True := trivial
            go_wp2_with (first
              | (at_builtin; have _t := tok; clear tok; refine wpList_app _ rfl _ _ 22 rfl .u8 w.heap.size 5 1 Try.underlying22 Try.infoU8 _ ys [128 + (ls.length : Int)] rfl (hvb.out.below (by (repeat (first | exact Below.refl _ _ | exact below_drewN _ | refine Below.drew ?_ | refine Below.alloc ?_ (by simp) _ | refine Below.setCell ?_ (by simp) _ | refine below_drewN' ?_ _)))) _ rfl (one_sl (by simp)) (by unfold maxLen; simp; omega) (by simp; omega) (by first | omega | (simp; omega) | simp) ?_; intro v3 w3 ho3 hg3 hb3 hn3; have HO3 := hid ho3; have HL3 := hid (Own.apart (hown.out.alloc _) HVL.out hg3); have HB3 := hid (Below.trans (hbel.out.trans (show Below w.heap.size wr _ by (repeat (first | exact Below.refl _ _ | exact below_drewN _ | refine Below.drew ?_ | refine Below.alloc ?_ (by simp; omega) _ | refine Below.alloc ?_ (by omega) _ | refine Below.setCell ?_ (by simp; omega) _ | refine below_drewN' ?_ _)))) hb3); have hz3 := hb3.size; simp at hz3)
              | (at_builtin; refine wpList_app _ rfl _ _ 22 rfl .u8 w.heap.size 5 1 Try.underlying22 Try.infoU8 _ (ys ++ [128 + (ls.length : Int)]) ls rfl HO3.out _ rfl HL3.out.sl (by unfold maxLen; simp; omega) (by simp; omega) (by first | omega | (simp; omega) | simp) ?_; intro v4 w4 ho4 hg4 hb4 hn4))
            go_ret
            refine ⟨_, rfl, ?_, HB3.out.trans hb4⟩
            rw [HLN.out, ← HQ.out]
            simpa using ho4
          · have e1 : (m : Int) / 256 = ((m / 256 : Nat) : Int) := by omega
            have e2 : (m : Int) % 256 = ((m % 256 : Nat) : Int) := by omega
            have E1 := hid e1
            have E2 := hid e2
            clear e1 e2
            have hp : (0 : Int) < (m : Int) := by omega
            go_wp2_with (at_builtin; refine wpList_app _ rfl _ _ 22 rfl .u8 wr.heap.size 5 1 Try.underlying22 Try.infoU8 _ [(m : Int) % 256] ls rfl (lit_own rfl (Nat.le_refl _) rfl rfl (by simp)) _ rfl (hown.out.sl.below (by (repeat (first | exact Below.refl _ _ | exact below_drewN _ | refine Below.drew ?_ | refine Below.alloc ?_ (by simp) _ | refine Below.setCell ?_ (by simp) _ | refine below_drewN' ?_ _)))) (by unfold maxLen; simp; omega) (by simp; omega) (by first | omega | (simp; omega) | simp) ?_; intro v2 w2 ho2 hg2 hb2 hn2)
            have hz2 := hg2.size
            simp at hz2
            have hl2 : (be m ++ ls).length = (be len.toNat).length := by rw [heq.out]
            rw [be_pos (by omega)] at hl2
            simp at hl2
            have hbr : Below wr.heap.size wr w2 := Below.trans (by (repeat (first | exact Below.refl _ _ | exact below_drewN _ | refine Below.drew ?_ | refine Below.alloc ?_ (by simp) _ | refine Below.setCell ?_ (by simp) _ | refine below_drewN' ?_ _))) hb2
            go_roundw
            case rel =>
              refine ⟨m / 256, [(m : Int) % 256] ++ ls, by rw [E1.out], by omega, ho2.mono (by omega), hvb.out.below hbr, ?_, by simp; omega, hbel.out.trans (hbr.mono (by omega)), by omega⟩
              show _ = _
              rw [← heq.out, be_pos (n := m) (by omega), E2.out]
              simp
            case measure =>
              rw [E1.out]
              simp [intOf]
              omega
    · have q3 := qc rfl
      clear qc q0
      unfold Hd.val
      dsimp only
      go_enter Try.func27, Try.ntmps27
      have tok0 : True := trivial
      go_upto_region 8 with (first
        | (go_at_call 32; refine (refSept tag _ (by omega) (by omega)).mono ?_; rintro e w0 ⟨v0, rfl, ho0, hb0⟩; have HO0 := hid ho0; have HX0 := hid (Box.below ((Box.made w 35 [.int .i64 cls, .int .i64 tag, .bool true, .int .i64 len, .int .i64 size]).alloc (.cells #[.int .u8 (F + 31)] 5)) hb0 (by simp; omega)); have HLB := hid ((lit_own (k := .u8) (xs := [F + 31]) (e := 5) (base := w.heap.size) (w := w.alloc (.cells #[.int .i64 cls, .int .i64 tag, .bool true, .int .i64 len, .int .i64 size] 35)) (n := w.heap.size + 1) (len := 1) (by simp) (by simp) rfl rfl (by simp)).below hb0); have HB0 := hid (Below.trans (show Below w.heap.size w _ by (repeat (first | exact Below.refl _ _ | exact below_drewN _ | refine Below.drew ?_ | refine Below.alloc ?_ (by simp) _ | refine Below.setCell ?_ (by simp) _ | refine below_drewN' ?_ _))) (hb0.mono (by first | omega | (simp; omega) | simp))); have hz0 := hb0.size; simp at hz0; clear ho0 hb0)
        | (at_builtin; refine wpList_app _ rfl _ _ 22 rfl .u8 w.heap.size 5 1 Try.underlying22 Try.infoU8 _ [F + 31] (sept tag.toNat) rfl HLB.out _ rfl HO0.out.sl (by unfold maxLen; simp; omega) (by simp; omega) (by first | omega | (simp; omega) | simp) ?_; intro vb W1 ho1 hg1 hb1 hn1; have HVB := hid ho1; have HXB := hid (Box.grown HX0.out HLB.out hg1 (by decide)); have HBV := hid (HB0.out.trans hb1); clear hn1 hb1 hg1 ho1))
      have hyq : [F + 31] ++ sept tag.toNat = ys := by rw [HY.out]; unfold idB; rw [if_neg (by dsimp only; omega), HFF.out]; rfl
      rw [hyq] at HVB
      clear hyq
      have HVL := hid HVB.out.lt'
      have hz1 := HBV.out.size
      have hxB := HXB.out.cell 3
      by_cases hl : len < 128
      · go_wp2_with (at_builtin; refine wpList_app _ rfl _ _ 22 rfl .u8 w.heap.size 5 1 Try.underlying22 Try.infoU8 _ ys [len] rfl (HVB.out.below (by (repeat (first | exact Below.refl _ _ | exact below_drewN _ | refine Below.drew ?_ | refine Below.alloc ?_ (by simp) _ | refine Below.setCell ?_ (by simp) _ | refine below_drewN' ?_ _)))) _ rfl (one_sl (by simp)) (by unfold maxLen; simp; omega) (by simp; omega) (by first | omega | (simp; omega) | simp) ?_; intro v3 w3 ho3 hg3 hb3 hn3)
        go_ret
        refine ⟨_, rfl, by unfold lenB; rw [if_pos hl]; exact ho3, Below.trans (HBV.out.trans ?_) hb3⟩
        (repeat (first | exact Below.refl _ _ | exact below_drewN _ | refine Below.drew ?_ | refine Below.alloc ?_ (by simp; omega) _ | refine Below.alloc ?_ (by omega) _ | refine Below.setCell ?_ (by simp; omega) _ | refine below_drewN' ?_ _))
      · have hlb : lenB len = (128 + ((be len.toNat).length : Int)) :: be len.toNat := by unfold lenB; rw [if_neg hl]
        have hbl := be_len 4 len.toNat (by omega)
        have HLN := hid hlb
        clear hlb
        go_wp2_with (fail)
        go_loopw [5, 6] (fun lv nv wr => ∃ (m : Nat) (ls : List Int), nv = .int .i64 m ∧ m ≤ 2147483647 ∧ Hid (Own .u8 5 W1.heap.size wr lv ls) ∧ Hid (Own .u8 5 w.heap.size wr vb ys) ∧ Hid (be m ++ ls = be len.toNat) ∧ ls.length ≤ 4 ∧ Hid (Below w.heap.size w wr) ∧ W1.heap.size ≤ wr.heap.size) (fun _ nv _ => (intOf nv).toNat)
        case atStart => exact ⟨len.toNat, [], by congr 1; omega, by omega, Own.nil _ _ _ _, HVB.out, by simp [Hid], by simp, HBV.out, Nat.le_refl _⟩
        case round =>
          obtain ⟨m, ls, rfl, hm, hown, hvb, heq, hlen, hbel, hsz⟩ := hrel
          rcases Nat.eq_zero_or_pos m with h0 | h0
          · subst h0
            have hq := heq.out
            rw [be_zero, List.nil_append] at hq
            have HQ := hid hq
            clear hq
            obtain ⟨al, capl, hal, -, -, -⟩ := hown.out.sl
            subst hal
            have tok : True := trivial
            go_wp2_with (first
              | (at_builtin; have _t := tok; clear tok; refine wpList_app _ rfl _ _ 22 rfl .u8 w.heap.size 5 1 Try.underlying22 Try.infoU8 _ ys [128 + (ls.length : Int)] rfl (hvb.out.below (by (repeat (first | exact Below.refl _ _ | exact below_drewN _ | refine Below.drew ?_ | refine Below.alloc ?_ (by simp) _ | refine Below.setCell ?_ (by simp) _ | refine below_drewN' ?_ _)))) _ rfl (one_sl (by simp)) (by unfold maxLen; simp; omega) (by simp; omega) (by first | omega | (simp; omega) | simp) ?_; intro v3 w3 ho3 hg3 hb3 hn3; have HO3 := hid ho3; have HL3 := hid (Own.apart (hown.out.alloc _) HVL.out hg3); have HB3 := hid (Below.trans (hbel.out.trans (show Below w.heap.size wr _ by (repeat (first | exact Below.refl _ _ | exact below_drewN _ | refine Below.drew ?_ | refine Below.alloc ?_ (by simp; omega) _ | refine Below.alloc ?_ (by omega) _ | refine Below.setCell ?_ (by simp; omega) _ | refine below_drewN' ?_ _)))) hb3); have hz3 := hb3.size; simp at hz3)
              | (at_builtin; refine wpList_app _ rfl _ _ 22 rfl .u8 w.heap.size 5 1 Try.underlying22 Try.infoU8 _ (ys ++ [128 + (ls.length : Int)]) ls rfl HO3.out _ rfl HL3.out.sl (by unfold maxLen; simp; omega) (by simp; omega) (by first | omega | (simp; omega) | simp) ?_; intro v4 w4 ho4 hg4 hb4 hn4))
            go_ret
            refine ⟨_, rfl, ?_, HB3.out.trans hb4⟩
            rw [HLN.out, ← HQ.out]
            simpa using ho4
          · have e1 : (m : Int) / 256 = ((m / 256 : Nat) : Int) := by omega
            have e2 : (m : Int) % 256 = ((m % 256 : Nat) : Int) := by omega
            have E1 := hid e1
            have E2 := hid e2
            clear e1 e2
            have hp : (0 : Int) < (m : Int) := by omega
            go_wp2_with (at_builtin; refine wpList_app _ rfl _ _ 22 rfl .u8 wr.heap.size 5 1 Try.underlying22 Try.infoU8 _ [(m : Int) % 256] ls rfl (lit_own rfl (Nat.le_refl _) rfl rfl (by simp)) _ rfl (hown.out.sl.below (by (repeat (first | exact Below.refl _ _ | exact below_drewN _ | refine Below.drew ?_ | refine Below.alloc ?_ (by simp) _ | refine Below.setCell ?_ (by simp) _ | refine below_drewN' ?_ _)))) (by unfold maxLen; simp; omega) (by simp; omega) (by first | omega | (simp; omega) | simp) ?_; intro v2 w2 ho2 hg2 hb2 hn2)
            have hz2 := hg2.size
            simp at hz2
            have hl2 : (be m ++ ls).length = (be len.toNat).length := by rw [heq.out]
            rw [be_pos (by omega)] at hl2
            simp at hl2
            have hbr : Below wr.heap.size wr w2 := Below.trans (by (repeat (first | exact Below.refl _ _ | exact below_drewN _ | refine Below.drew ?_ | refine Below.alloc ?_ (by simp) _ | refine Below.setCell ?_ (by simp) _ | refine below_drewN' ?_ _))) hb2
            go_roundw
            case rel =>
              refine ⟨m / 256, [(m : Int) % 256] ++ ls, by rw [E1.out], by omega, ho2.mono (by omega), hvb.out.below hbr, ?_, by simp; omega, hbel.out.trans (hbr.mono (by omega)), by omega⟩
              show _ = _
              rw [← heq.out, be_pos (n := m) (by omega), E2.out]
              simp
            case measure =>
              rw [E1.out]
              simp [intOf]
              omega

end Go.Proofs.Ytgjjncoelbhpeaa
