/- Several texts in one: ApiCompat, Ref1, RefWrap. -/
import Derived.Test.YtildhebaikeknaaGreatPk5
import Derived.Test.YtildhebaikeknaaGreatPk7
import Derived.Test.YtildhebaikeknaaGreatPk1
import Derived.Deep.CutRange
import Derived.Test.YtildhebaikeknaaGreatPk8
import Derived.Deep.Cut
/-! ApiCompat -/
namespace Go.Proofs.YtildhebaikeknaaGreat
open Go.RowKit
open Go.Great (wp_anyFrame)

def compatHead : List Mp := [⟨160, [32]⟩, ⟨168, [32, 776]⟩, ⟨170, [97]⟩, ⟨175, [32, 772]⟩, ⟨178, [50]⟩, ⟨179, [51]⟩, ⟨180, [32, 769]⟩, ⟨181, [956]⟩, ⟨184, [32, 807]⟩, ⟨185, [49]⟩, ⟨186, [111]⟩, ⟨188, [49, 8260, 52]⟩, ⟨189, [49, 8260, 50]⟩, ⟨190, [51, 8260, 52]⟩, ⟨306, [73, 74]⟩, ⟨307, [105, 106]⟩, ⟨319, [76, 183]⟩, ⟨320, [108, 183]⟩, ⟨329, [700, 110]⟩, ⟨383, [115]⟩, ⟨728, [32, 774]⟩, ⟨729, [32, 775]⟩, ⟨730, [32, 778]⟩, ⟨731, [32, 808]⟩, ⟨733, [32, 779]⟩, ⟨890, [32, 837]⟩, ⟨900, [32, 769]⟩, ⟨901, [168, 769]⟩, ⟨8194, [32]⟩, ⟨8195, [32]⟩, ⟨8209, [8208]⟩, ⟨8228, [46]⟩, ⟨8229, [46, 46]⟩, ⟨8230, [46, 46, 46]⟩, ⟨8304, [48]⟩, ⟨8482, [84, 77]⟩, ⟨8544, [73]⟩, ⟨8545, [73, 73]⟩, ⟨8548, [86]⟩, ⟨8560, [105]⟩, ⟨8561, [105, 105]⟩, ⟨8564, [118]⟩, ⟨12288, [32]⟩, ⟨64256, [102, 102]⟩, ⟨64257, [102, 105]⟩, ⟨64258, [102, 108]⟩, ⟨64259, [102, 102, 105]⟩, ⟨64261, [383, 116]⟩, ⟨64262, [115, 116]⟩, ⟨65438, [12441]⟩, ⟨65439, [12442]⟩, ⟨65398, [12459]⟩]
/-- fullwidth forms, circled digits -/
def compatWide (k : Nat) : List Mp := (List.range k).map fun (i : Nat) => ⟨65281 + (i : Int), [33 + (i : Int)]⟩
def compatRing (k : Nat) : List Mp := (List.range k).map fun (i : Nat) => ⟨9312 + (i : Int), [49 + (i : Int)]⟩
def tabCompat : List Mp := compatHead ++ compatWide 94 ++ compatRing 9
theorem compatWide_next (k : Nat) : compatWide (k + 1) = compatWide k ++ [⟨65281 + (k : Int), [33 + (k : Int)]⟩] := by
  unfold compatWide
  rw [List.range_succ, List.map_append]
  rfl
theorem compatRing_next (k : Nat) : compatRing (k + 1) = compatRing k ++ [⟨9312 + (k : Int), [49 + (k : Int)]⟩] := by
  unfold compatRing
  rw [List.range_succ, List.map_append]
  rfl
theorem compatWide_len (k : Nat) : (compatHead ++ compatWide k).length = 52 + k := by
  unfold compatWide
  rw [List.length_append, List.length_map, List.length_range]
  rfl
theorem compatRing_len (k : Nat) : (compatHead ++ compatWide 94 ++ compatRing k).length = 52 + 94 + k := by
  unfold compatRing
  rw [List.length_append, List.length_map, List.length_range, compatWide_len]
set_option maxHeartbeats 4000000 in
set_option maxRecDepth 100000 in
theorem apiCompat (w : World) : Calls Tryz.prog 24 #[] w fun e w' => ∃ v, e = .returned v ∧ OwnM 70 w.heap.size w' v tabCompat ∧ Below w.heap.size w w' := by
  obtain ⟨i0, hi0, hz0, hz1, hz2⟩ := info_parts Tryz.infoMp
  go_enter Tryz.func24, Tryz.ntmps24
  go_upto_region 1 with (fail)
  rename_i K1 hK1
  refine wp_anyFrame 135 (by as_aux_lemma => kernel_rfl) rfl fun a1 hs1 hd1 => ?_
  apply wp_region_lit
  refine Go.Great.wpList_splitAt 104 (mpOps 22 70 "tables.go:62" 4 0 compatHead) (by as_aux_lemma => kernel_rfl) ?_
  refine wpList_mps 22 70 "tables.go:62" Tryz.underlying22 (by as_aux_lemma => kernel_rfl) (by as_aux_lemma => kernel_rfl) (fun _ _ _ => by as_aux_lemma => kernel_rfl) w.heap.size compatHead 4 0 a1 w (by rw [hs1]; exact Nat.le_of_ble_eq_true (by as_aux_lemma => kernel_rfl)) (by decide) (Nat.le_refl _) fun a2 w2 us hs2 hd2 hts hev _ hb2 => ?_
  refine wpList_buildMps rfl 50 70 _ compatHead 52 rfl us rfl 4 w2.heap.size rfl (some 108) rfl w.heap.size hb2.size (by as_aux_lemma => kernel_rfl) (by as_aux_lemma => kernel_rfl) (by as_aux_lemma => kernel_rfl) (by decide) (by decide) (by as_aux_lemma => kernel_rfl) hts hev fun w3 ho3 hb3 => ?_
  refine Go.Great.wpList_readTo rfl (some 1) rfl (.slice (some ⟨w2.heap.size, 0, none⟩) 52 52) ?_ ?_
  · have := Act.eval_put_same a2 108 (.slice (some ⟨w2.heap.size, 0, none⟩) 52 52) (by rw [hs2, hs1]; omega)
    exact congrArg (fun v => Result.ok (Next.value v) _) this
  apply wpList_nil
  refine hK1 _ _ ?_
  clear hK1 K1 hev hts
  have HO := hid ho3
  have HB := hid (hb2.trans (hb3.mono hb2.size))
  have hs4 : ((a2.put (some 108) (.slice (some ⟨w2.heap.size, 0, none⟩) 52 52)).put (some 1) (.slice (some ⟨w2.heap.size, 0, none⟩) 52 52)).tmps.size = 135 := by rw [Act.size_put, Act.size_put, hs2, hs1]
  have hd4 : ((a2.put (some 108) (.slice (some ⟨w2.heap.size, 0, none⟩) 52 52)).put (some 1) (.slice (some ⟨w2.heap.size, 0, none⟩) 52 52)).defers = [] := by rw [Act.defers_put', Act.defers_put', hd2, hd1]
  have he4 := Act.eval_put_same (a2.put (some 108) (.slice (some ⟨w2.heap.size, 0, none⟩) 52 52)) 1 (.slice (some ⟨w2.heap.size, 0, none⟩) 52 52) (by rw [Act.size_put, hs2, hs1]; omega)
  generalize (a2.put (some 108) (.slice (some ⟨w2.heap.size, 0, none⟩) 52 52)).put (some 1) (.slice (some ⟨w2.heap.size, 0, none⟩) 52 52) = a4 at hs4 hd4 he4 ⊢
  clear ho3 hb3 hb2 hs2 hd2 hs1 hd1
  obtain ⟨g, hg⟩ : ∃ g, g = Value.slice (some ⟨w2.heap.size, 0, none⟩) 52 52 := ⟨_, rfl⟩
  rw [← hg] at HO he4
  clear hg
  obtain ⟨f, rfl⟩ := slots135 a4 g hs4 hd4 he4
  clear hs4 hd4 he4
  go_wp2
  go_loopw [1, 2] (fun lv iv wr => ∃ k : Nat, k ≤ 94 ∧ iv = .int .i64 (65281 + (k : Int)) ∧ Hid (OwnM 70 w.heap.size wr lv (compatHead ++ compatWide k)) ∧ Hid (Below w.heap.size w wr)) (fun _ iv _ => 94 - ((intOf iv).toNat - 65281))
  case atStart => exact ⟨0, by omega, rfl, by show OwnM _ _ _ _ (compatHead ++ []); rw [List.append_nil]; exact HO.out, HB.out⟩
  case round =>
    obtain ⟨k, hk, rfl, hown, hbel⟩ := hrel
    obtain ⟨al, cl, hal⟩ := hown.out.form
    rw [compatWide_len] at hal
    subst hal
    have hsz := hbel.out.size
    by_cases hlt : k < 94
    · have e1 : wrap64 (65281 + (k : Int) - 65248) = 33 + (k : Int) := by unfold wrap64; omega
      go_wp2_with (at_builtin; go_loud (refine wpList_appM _ rfl _ _ 50 rfl w.heap.size 70 (by decide) 32 i0 (.agg #[.int .i64 0, .slice none 0 0]) Tryz.underlying50 hi0 hz0 hz1 hz2 rfl _ _ (52 + k) (compatWide_len k).symm rfl (hown.out.below (by (repeat (first | exact Below.refl _ _ | exact below_drewN _ | refine Below.drew ?_ | refine Below.alloc ?_ (by first | omega | (simp; done) | (simp; omega)) _ | refine Below.setCell ?_ (by first | (simp; done) | (simp; omega)) _ | refine below_drewN' ?_ _)))) (wr.heap.size + 1) ⟨65281 + (k : Int), [65281 + (k : Int) - 65248]⟩ (.slice (some ⟨wr.heap.size, 0, none⟩) 1 1) rfl ⟨laid_two _ _ _ _ 0, laid_two _ _ _ _ 1⟩ (laid_own wr hsz _ _) (by unfold maxLen; omega) (by omega) (by simp; omega) ?_); intro v6 w6 ho6 hg6 hb6; clear hg6)
      go_roundw
      case rel =>
        refine ⟨k + 1, by omega, by go_num, ?_, hbel.out.trans (Below.trans (show Below w.heap.size wr _ from by (repeat (first | exact Below.refl _ _ | exact below_drewN _ | refine Below.drew ?_ | refine Below.alloc ?_ (by first | omega | (simp; done) | (simp; omega)) _ | refine Below.setCell ?_ (by first | (simp; done) | (simp; omega)) _ | refine below_drewN' ?_ _))) hb6)⟩
        show OwnM _ _ _ _ _
        rw [compatWide_next, ← List.append_assoc, show (33 : Int) + (k : Int) = 65281 + (k : Int) - 65248 by omega]
        exact ho6
      case measure => simp [intOf]; omega
    · obtain rfl : k = 94 := by omega
      rw [show (65281 + ((94 : Nat) : Int)) = 65375 from rfl]
      go_wp2
      go_loopw [1, 3] (fun lv iv wr => ∃ k : Nat, k ≤ 9 ∧ iv = .int .i64 (9312 + (k : Int)) ∧ Hid (OwnM 70 w.heap.size wr lv (compatHead ++ compatWide 94 ++ compatRing k)) ∧ Hid (Below w.heap.size w wr)) (fun _ iv _ => 9 - ((intOf iv).toNat - 9312))
      case atStart => exact ⟨0, by omega, rfl, by show OwnM _ _ _ _ (compatHead ++ compatWide 94 ++ []); rw [List.append_nil]; exact hown.out, hbel.out⟩
      case round =>
        clear hown hbel hsz
        obtain ⟨k, hk, rfl, hown, hbel⟩ := hrel
        obtain ⟨al, cl, hal⟩ := hown.out.form
        rw [compatRing_len] at hal
        subst hal
        have hsz := hbel.out.size
        by_cases hlt : k < 9
        · have e1 : wrap64 (9312 + (k : Int) - 9312) = (k : Int) := by unfold wrap64; omega
          have e2 : wrap64 ((k : Int) + 49) = (k : Int) + 49 := by unfold wrap64; omega
          go_wp2_with (at_builtin; go_loud (refine wpList_appM _ rfl _ _ 50 rfl w.heap.size 70 (by decide) 32 i0 (.agg #[.int .i64 0, .slice none 0 0]) Tryz.underlying50 hi0 hz0 hz1 hz2 rfl _ _ (52 + 94 + k) (compatRing_len k).symm rfl (hown.out.below (by (repeat (first | exact Below.refl _ _ | exact below_drewN _ | refine Below.drew ?_ | refine Below.alloc ?_ (by first | omega | (simp; done) | (simp; omega)) _ | refine Below.setCell ?_ (by first | (simp; done) | (simp; omega)) _ | refine below_drewN' ?_ _)))) (wr.heap.size + 1) ⟨9312 + (k : Int), [9312 + (k : Int) - 9312 + 49]⟩ (.slice (some ⟨wr.heap.size, 0, none⟩) 1 1) rfl ⟨laid_two _ _ _ _ 0, laid_two _ _ _ _ 1⟩ (laid_own wr hsz _ _) (by unfold maxLen; omega) (by omega) (by simp; omega) ?_); intro v6 w6 ho6 hg6 hb6; clear hg6)
          go_roundw
          case rel =>
            refine ⟨k + 1, by omega, by go_num, ?_, hbel.out.trans (Below.trans (show Below w.heap.size wr _ from by (repeat (first | exact Below.refl _ _ | exact below_drewN _ | refine Below.drew ?_ | refine Below.alloc ?_ (by first | omega | (simp; done) | (simp; omega)) _ | refine Below.setCell ?_ (by first | (simp; done) | (simp; omega)) _ | refine below_drewN' ?_ _))) hb6)⟩
            show OwnM _ _ _ _ _
            rw [compatRing_next, ← List.append_assoc, show (49 : Int) + (k : Int) = 9312 + (k : Int) - 9312 + 49 by omega]
            exact ho6
          case measure => simp [intOf]; omega
        · obtain rfl : k = 9 := by omega
          go_wp2
          go_ret
          exact ⟨_, rfl, hown.out, hbel.out⟩
end Go.Proofs.YtildhebaikeknaaGreat

/-! Ref1 -/
namespace Go.Proofs.YtildhebaikeknaaGreat
open Go.RowKit

set_option maxHeartbeats 2000000 in
theorem refHeadBytes (h : Hd) (w : World) (hok : HdOk h) :
    Calls Tryz.prog 56 #[h.val] w fun e w' => ∃ v', e = .returned v' ∧ Own .u8 5 w.heap.size w' v' (hdB h) ∧ Below w.heap.size w w' := by
  have hlid : (idB h).length ≤ 6 := by
    obtain ⟨_, ⟨t0, t1⟩, _⟩ := hok
    unfold idB
    split
    · simp
    · have := septHi_le 4 (h.tag.toNat / 128) (by omega)
      simp [sept]; omega
  obtain ⟨cls, tag, cons, len, size⟩ := h
  obtain ⟨⟨c0, c1⟩, ⟨t0, t1⟩, ⟨l0, l1⟩⟩ := hok
  dsimp only at c0 c1 t0 t1 l0 l1
  obtain ⟨ys, hys⟩ : ∃ ys, ys = idB ⟨cls, tag, cons, len, size⟩ := ⟨_, rfl⟩
  have HY := hid hys
  unfold hdB
  rw [← hys] at hlid ⊢
  dsimp only
  clear hys
  obtain ⟨F, hF⟩ : ∃ F, F = cls * 64 + (if cons = true then 32 else 0) := ⟨_, rfl⟩
  have hFF : F = firstB ⟨cls, tag, cons, len, size⟩ := by rw [hF]; simp only [firstB]; omega
  have qc : cons = true → cls * 64 + 32 = F := by intro hc; rw [hF, hc]; simp
  have q0 : cons = false → cls * 64 = F := by intro hc; rw [hF, hc]; simp
  have F01 : 0 ≤ F ∧ F ≤ 224 := by rw [hF]; split <;> omega
  obtain ⟨F0, F1⟩ := F01
  have HFF := hid hFF
  clear hF hFF
  by_cases ht : tag < 31
  · have hyq : ys = [F + tag] := by rw [HY.out]; unfold idB; rw [if_pos ht, HFF.out]
    have HYQ := hid hyq
    clear hyq
    cases cons
    · have q3 := q0 rfl
      clear qc q0
      unfold Hd.val
      dsimp only
      go_enter Tryz.func56, Tryz.ntmps56
      go_upto_region 8 with (fail)
      have HXB := hid ((Box.made w 61 [.int .i64 cls, .int .i64 tag, .bool false, .int .i64 len, .int .i64 size]).alloc (.cells #[.int .u8 (F + tag)] 5))
      have HBV : Hid (Below w.heap.size w ((w.alloc (.cells #[.int .i64 cls, .int .i64 tag, .bool false, .int .i64 len, .int .i64 size] 61)).alloc (.cells #[.int .u8 (F + tag)] 5))) := hid (by (repeat (first | exact Below.refl _ _ | exact below_drewN _ | refine Below.drew ?_ | refine Below.alloc ?_ (by simp) _ | refine Below.setCell ?_ (by simp) _ | refine below_drewN' ?_ _)))
      have HVB : Hid (Own .u8 5 w.heap.size ((w.alloc (.cells #[.int .i64 cls, .int .i64 tag, .bool false, .int .i64 len, .int .i64 size] 61)).alloc (.cells #[.int .u8 (F + tag)] 5)) (.slice (some ⟨w.heap.size + 1, 0, none⟩) 1 1) ys) := hid (by rw [HYQ.out]; exact lit_own (by simp) (by simp) rfl rfl (by simp))
      generalize (w.alloc (.cells #[.int .i64 cls, .int .i64 tag, .bool false, .int .i64 len, .int .i64 size] 61)).alloc (.cells #[.int .u8 (F + tag)] 5) = W1 at HXB HBV HVB ⊢
      generalize Value.slice (some ⟨w.heap.size + 1, 0, none⟩) 1 1 = vb at HVB ⊢
      have HVL := hid HVB.out.lt'
      have hz1 := HBV.out.size
      have hxB := HXB.out.cell 3
      by_cases hl : len < 128
      · go_wp2_with (at_builtin; refine wpList_app _ rfl _ _ 42 rfl .u8 w.heap.size 5 1 Tryz.underlying42 Tryz.infoU8 _ ys [len] rfl (HVB.out.below (by (repeat (first | exact Below.refl _ _ | exact below_drewN _ | refine Below.drew ?_ | refine Below.alloc ?_ (by simp) _ | refine Below.setCell ?_ (by simp) _ | refine below_drewN' ?_ _)))) _ rfl (one_sl (by simp)) (by unfold maxLen; simp; omega) (by simp; omega) (by first | omega | (simp; omega) | simp) ?_; intro v3 w3 ho3 hg3 hb3 hn3)
        go_ret
        refine ⟨_, rfl, by unfold lenB; rw [if_pos hl]; exact ho3, Below.trans (HBV.out.trans ?_) hb3⟩
        (repeat (first | exact Below.refl _ _ | exact below_drewN _ | refine Below.drew ?_ | refine Below.alloc ?_ (by first | omega | (simp; done) | (simp; omega)) _ | refine Below.setCell ?_ (by first | (simp; done) | (simp; omega)) _ | refine below_drewN' ?_ _))
      · have hlb : lenB len = (128 + ((be len.toNat).length : Int)) :: be len.toNat := by unfold lenB; rw [if_neg hl]
        have hbl := be_len 4 len.toNat (by omega)
        have HLN := hid hlb
        clear hlb
        go_wp2_with (fail)
        go_loopw [5, 6] (fun lv nv wr => ∃ (m : Nat) (ls : List Int), nv = .int .i64 m ∧ m ≤ 2147483647 ∧ Hid (Own .u8 5 W1.heap.size wr lv ls) ∧ Hid (Own .u8 5 w.heap.size wr vb ys) ∧ Hid (be m ++ ls = be len.toNat) ∧ ls.length ≤ 4 ∧ Hid (Below w.heap.size w wr) ∧ W1.heap.size ≤ wr.heap.size) (fun _ nv _ => (intOf nv).toNat)
        case atStart => exact ⟨len.toNat, [], by congr 1; omega, by omega, Own.nil _ _ _ _, HVB.out, by simp [Hid], by simp, HBV.out, Nat.le_refl _⟩
        case round =>
          obtain ⟨m, ls, rfl, hm, hown, hvb, heq, hlen, hbel, hsz⟩ := hrel
          rcases Nat.eq_zero_or_pos m with h0 | h0
          · subst h0
            have hq := heq.out
            rw [be_zero, List.nil_append] at hq
            have HQ := hid hq
            clear hq
            obtain ⟨al, capl, hal, -, -, -⟩ := hown.out.sl
            subst hal
            have tok : True := trivial
            go_wp2_with (first
              | (at_builtin; have _t := tok; clear tok; refine wpList_app _ rfl _ _ 42 rfl .u8 w.heap.size 5 1 Tryz.underlying42 Tryz.infoU8 _ ys [128 + (ls.length : Int)] rfl (hvb.out.below (by (repeat (first | exact Below.refl _ _ | exact below_drewN _ | refine Below.drew ?_ | refine Below.alloc ?_ (by simp) _ | refine Below.setCell ?_ (by simp) _ | refine below_drewN' ?_ _)))) _ rfl (one_sl (by simp)) (by unfold maxLen; simp; omega) (by simp; omega) (by first | omega | (simp; omega) | simp) ?_; intro v3 w3 ho3 hg3 hb3 hn3; have HO3 := hid ho3; have HL3 := hid (Own.apart (hown.out.alloc _) HVL.out hg3); have HB3 := hid (Below.trans (hbel.out.trans (show Below w.heap.size wr _ by (repeat (first | exact Below.refl _ _ | exact below_drewN _ | refine Below.drew ?_ | refine Below.alloc ?_ (by first | omega | (simp; done) | (simp; omega)) _ | refine Below.setCell ?_ (by first | (simp; done) | (simp; omega)) _ | refine below_drewN' ?_ _)))) hb3); have hz3 := hb3.size; simp at hz3)
              | (at_builtin; refine wpList_app _ rfl _ _ 42 rfl .u8 w.heap.size 5 1 Tryz.underlying42 Tryz.infoU8 _ (ys ++ [128 + (ls.length : Int)]) ls rfl HO3.out _ rfl HL3.out.sl (by unfold maxLen; simp; omega) (by simp; omega) (by first | omega | (simp; omega) | simp) ?_; intro v4 w4 ho4 hg4 hb4 hn4))
            go_ret
            refine ⟨_, rfl, ?_, HB3.out.trans hb4⟩
            rw [HLN.out, ← HQ.out]
            simpa using ho4
          · have e1 : (m : Int) / 256 = ((m / 256 : Nat) : Int) := by omega
            have e2 : (m : Int) % 256 = ((m % 256 : Nat) : Int) := by omega
            have E1 := hid e1
            have E2 := hid e2
            clear e1 e2
            have hp : (0 : Int) < (m : Int) := by omega
            go_wp2_with (at_builtin; refine wpList_app _ rfl _ _ 42 rfl .u8 wr.heap.size 5 1 Tryz.underlying42 Tryz.infoU8 _ [(m : Int) % 256] ls rfl (lit_own rfl (Nat.le_refl _) rfl rfl (by simp)) _ rfl (hown.out.sl.below (by (repeat (first | exact Below.refl _ _ | exact below_drewN _ | refine Below.drew ?_ | refine Below.alloc ?_ (by simp) _ | refine Below.setCell ?_ (by simp) _ | refine below_drewN' ?_ _)))) (by unfold maxLen; simp; omega) (by simp; omega) (by first | omega | (simp; omega) | simp) ?_; intro v2 w2 ho2 hg2 hb2 hn2)
            have hz2 := hg2.size
            simp at hz2
            have hl2 : (be m ++ ls).length = (be len.toNat).length := by rw [heq.out]
            rw [be_pos (by omega)] at hl2
            simp at hl2
            have hbr : Below wr.heap.size wr w2 := Below.trans (by (repeat (first | exact Below.refl _ _ | exact below_drewN _ | refine Below.drew ?_ | refine Below.alloc ?_ (by simp) _ | refine Below.setCell ?_ (by simp) _ | refine below_drewN' ?_ _))) hb2
            go_roundw
            case rel =>
              refine ⟨m / 256, [(m : Int) % 256] ++ ls, by rw [E1.out], by omega, ho2.mono (by omega), hvb.out.below hbr, ?_, by simp; omega, hbel.out.trans (hbr.mono (by omega)), by omega⟩
              show _ = _
              rw [← heq.out, be_pos (n := m) (by omega), E2.out]
              simp
            case measure =>
              rw [E1.out]
              simp [intOf]
              omega
    · have q3 := qc rfl
      clear qc q0
      unfold Hd.val
      dsimp only
      go_enter Tryz.func56, Tryz.ntmps56
      go_upto_region 8 with (fail)
      have HXB := hid ((Box.made w 61 [.int .i64 cls, .int .i64 tag, .bool true, .int .i64 len, .int .i64 size]).alloc (.cells #[.int .u8 (F + tag)] 5))
      have HBV : Hid (Below w.heap.size w ((w.alloc (.cells #[.int .i64 cls, .int .i64 tag, .bool true, .int .i64 len, .int .i64 size] 61)).alloc (.cells #[.int .u8 (F + tag)] 5))) := hid (by (repeat (first | exact Below.refl _ _ | exact below_drewN _ | refine Below.drew ?_ | refine Below.alloc ?_ (by simp) _ | refine Below.setCell ?_ (by simp) _ | refine below_drewN' ?_ _)))
      have HVB : Hid (Own .u8 5 w.heap.size ((w.alloc (.cells #[.int .i64 cls, .int .i64 tag, .bool true, .int .i64 len, .int .i64 size] 61)).alloc (.cells #[.int .u8 (F + tag)] 5)) (.slice (some ⟨w.heap.size + 1, 0, none⟩) 1 1) ys) := hid (by rw [HYQ.out]; exact lit_own (by simp) (by simp) rfl rfl (by simp))
      generalize (w.alloc (.cells #[.int .i64 cls, .int .i64 tag, .bool true, .int .i64 len, .int .i64 size] 61)).alloc (.cells #[.int .u8 (F + tag)] 5) = W1 at HXB HBV HVB ⊢
      generalize Value.slice (some ⟨w.heap.size + 1, 0, none⟩) 1 1 = vb at HVB ⊢
      have HVL := hid HVB.out.lt'
      have hz1 := HBV.out.size
      have hxB := HXB.out.cell 3
      by_cases hl : len < 128
      · go_wp2_with (at_builtin; refine wpList_app _ rfl _ _ 42 rfl .u8 w.heap.size 5 1 Tryz.underlying42 Tryz.infoU8 _ ys [len] rfl (HVB.out.below (by (repeat (first | exact Below.refl _ _ | exact below_drewN _ | refine Below.drew ?_ | refine Below.alloc ?_ (by simp) _ | refine Below.setCell ?_ (by simp) _ | refine below_drewN' ?_ _)))) _ rfl (one_sl (by simp)) (by unfold maxLen; simp; omega) (by simp; omega) (by first | omega | (simp; omega) | simp) ?_; intro v3 w3 ho3 hg3 hb3 hn3)
        go_ret
        refine ⟨_, rfl, by unfold lenB; rw [if_pos hl]; exact ho3, Below.trans (HBV.out.trans ?_) hb3⟩
        (repeat (first | exact Below.refl _ _ | exact below_drewN _ | refine Below.drew ?_ | refine Below.alloc ?_ (by first | omega | (simp; done) | (simp; omega)) _ | refine Below.setCell ?_ (by first | (simp; done) | (simp; omega)) _ | refine below_drewN' ?_ _))
      · have hlb : lenB len = (128 + ((be len.toNat).length : Int)) :: be len.toNat := by unfold lenB; rw [if_neg hl]
        have hbl := be_len 4 len.toNat (by omega)
        have HLN := hid hlb
        clear hlb
        go_wp2_with (fail)
        go_loopw [5, 6] (fun lv nv wr => ∃ (m : Nat) (ls : List Int), nv = .int .i64 m ∧ m ≤ 2147483647 ∧ Hid (Own .u8 5 W1.heap.size wr lv ls) ∧ Hid (Own .u8 5 w.heap.size wr vb ys) ∧ Hid (be m ++ ls = be len.toNat) ∧ ls.length ≤ 4 ∧ Hid (Below w.heap.size w wr) ∧ W1.heap.size ≤ wr.heap.size) (fun _ nv _ => (intOf nv).toNat)
        case atStart => exact ⟨len.toNat, [], by congr 1; omega, by omega, Own.nil _ _ _ _, HVB.out, by simp [Hid], by simp, HBV.out, Nat.le_refl _⟩
        case round =>
          obtain ⟨m, ls, rfl, hm, hown, hvb, heq, hlen, hbel, hsz⟩ := hrel
          rcases Nat.eq_zero_or_pos m with h0 | h0
          · subst h0
            have hq := heq.out
            rw [be_zero, List.nil_append] at hq
            have HQ := hid hq
            clear hq
            obtain ⟨al, capl, hal, -, -, -⟩ := hown.out.sl
            subst hal
            have tok : True := trivial
            go_wp2_with (first
              | (at_builtin; have _t := tok; clear tok; refine wpList_app _ rfl _ _ 42 rfl .u8 w.heap.size 5 1 Tryz.underlying42 Tryz.infoU8 _ ys [128 + (ls.length : Int)] rfl (hvb.out.below (by (repeat (first | exact Below.refl _ _ | exact below_drewN _ | refine Below.drew ?_ | refine Below.alloc ?_ (by simp) _ | refine Below.setCell ?_ (by simp) _ | refine below_drewN' ?_ _)))) _ rfl (one_sl (by simp)) (by unfold maxLen; simp; omega) (by simp; omega) (by first | omega | (simp; omega) | simp) ?_; intro v3 w3 ho3 hg3 hb3 hn3; have HO3 := hid ho3; have HL3 := hid (Own.apart (hown.out.alloc _) HVL.out hg3); have HB3 := hid (Below.trans (hbel.out.trans (show Below w.heap.size wr _ by (repeat (first | exact Below.refl _ _ | exact below_drewN _ | refine Below.drew ?_ | refine Below.alloc ?_ (by first | omega | (simp; done) | (simp; omega)) _ | refine Below.setCell ?_ (by first | (simp; done) | (simp; omega)) _ | refine below_drewN' ?_ _)))) hb3); have hz3 := hb3.size; simp at hz3)
              | (at_builtin; refine wpList_app _ rfl _ _ 42 rfl .u8 w.heap.size 5 1 Tryz.underlying42 Tryz.infoU8 _ (ys ++ [128 + (ls.length : Int)]) ls rfl HO3.out _ rfl HL3.out.sl (by unfold maxLen; simp; omega) (by simp; omega) (by first | omega | (simp; omega) | simp) ?_; intro v4 w4 ho4 hg4 hb4 hn4))
            go_ret
            refine ⟨_, rfl, ?_, HB3.out.trans hb4⟩
            rw [HLN.out, ← HQ.out]
            simpa using ho4
          · have e1 : (m : Int) / 256 = ((m / 256 : Nat) : Int) := by omega
            have e2 : (m : Int) % 256 = ((m % 256 : Nat) : Int) := by omega
            have E1 := hid e1
            have E2 := hid e2
            clear e1 e2
            have hp : (0 : Int) < (m : Int) := by omega
            go_wp2_with (at_builtin; refine wpList_app _ rfl _ _ 42 rfl .u8 wr.heap.size 5 1 Tryz.underlying42 Tryz.infoU8 _ [(m : Int) % 256] ls rfl (lit_own rfl (Nat.le_refl _) rfl rfl (by simp)) _ rfl (hown.out.sl.below (by (repeat (first | exact Below.refl _ _ | exact below_drewN _ | refine Below.drew ?_ | refine Below.alloc ?_ (by simp) _ | refine Below.setCell ?_ (by simp) _ | refine below_drewN' ?_ _)))) (by unfold maxLen; simp; omega) (by simp; omega) (by first | omega | (simp; omega) | simp) ?_; intro v2 w2 ho2 hg2 hb2 hn2)
            have hz2 := hg2.size
            simp at hz2
            have hl2 : (be m ++ ls).length = (be len.toNat).length := by rw [heq.out]
            rw [be_pos (by omega)] at hl2
            simp at hl2
            have hbr : Below wr.heap.size wr w2 := Below.trans (by (repeat (first | exact Below.refl _ _ | exact below_drewN _ | refine Below.drew ?_ | refine Below.alloc ?_ (by simp) _ | refine Below.setCell ?_ (by simp) _ | refine below_drewN' ?_ _))) hb2
            go_roundw
            case rel =>
              refine ⟨m / 256, [(m : Int) % 256] ++ ls, by rw [E1.out], by omega, ho2.mono (by omega), hvb.out.below hbr, ?_, by simp; omega, hbel.out.trans (hbr.mono (by omega)), by omega⟩
              show _ = _
              rw [← heq.out, be_pos (n := m) (by omega), E2.out]
              simp
            case measure =>
              rw [E1.out]
              simp [intOf]
              omega
  · have hsl := sept_len tag.toNat (by omega)
    cases cons
    · have q3 := q0 rfl
      clear qc q0
      unfold Hd.val
      dsimp only
      go_enter Tryz.func56, Tryz.ntmps56
      have tok0 : True := trivial
      go_upto_region 8 with (first
        | (go_at_call 77; refine (refSept tag _ (by omega) (by omega)).mono ?_; rintro e w0 ⟨v0, rfl, ho0, hb0⟩; have HO0 := hid ho0; have HX0 := hid (Box.below ((Box.made w 61 [.int .i64 cls, .int .i64 tag, .bool false, .int .i64 len, .int .i64 size]).alloc (.cells #[.int .u8 (F + 31)] 5)) hb0 (by simp; omega)); have HLB := hid ((lit_own (k := .u8) (xs := [F + 31]) (e := 5) (base := w.heap.size) (w := w.alloc (.cells #[.int .i64 cls, .int .i64 tag, .bool false, .int .i64 len, .int .i64 size] 61)) (n := w.heap.size + 1) (len := 1) (by simp) (by simp) rfl rfl (by simp)).below hb0); have HB0 := hid (Below.trans (show Below w.heap.size w _ by (repeat (first | exact Below.refl _ _ | exact below_drewN _ | refine Below.drew ?_ | refine Below.alloc ?_ (by simp) _ | refine Below.setCell ?_ (by simp) _ | refine below_drewN' ?_ _))) (hb0.mono (by first | omega | (simp; omega) | simp))); have hz0 := hb0.size; simp at hz0; clear ho0 hb0)
        | (at_builtin; refine wpList_app _ rfl _ _ 42 rfl .u8 w.heap.size 5 1 Tryz.underlying42 Tryz.infoU8 _ [F + 31] (sept tag.toNat) rfl HLB.out _ rfl HO0.out.sl (by unfold maxLen; simp; omega) (by simp; omega) (by first | omega | (simp; omega) | simp) ?_; intro vb W1 ho1 hg1 hb1 hn1; have HVB := hid ho1; have HXB := hid (Box.grown HX0.out HLB.out hg1 (by decide)); have HBV := hid (HB0.out.trans hb1); clear hn1 hb1 hg1 ho1))
      have hyq : [F + 31] ++ sept tag.toNat = ys := by rw [HY.out]; unfold idB; rw [if_neg (by dsimp only; omega), HFF.out]; rfl
      rw [hyq] at HVB
      clear hyq
      have HVL := hid HVB.out.lt'
      have hz1 := HBV.out.size
      have hxB := HXB.out.cell 3
      by_cases hl : len < 128
      · go_wp2_with (at_builtin; refine wpList_app _ rfl _ _ 42 rfl .u8 w.heap.size 5 1 Tryz.underlying42 Tryz.infoU8 _ ys [len] rfl (HVB.out.below (by (repeat (first | exact Below.refl _ _ | exact below_drewN _ | refine Below.drew ?_ | refine Below.alloc ?_ (by simp) _ | refine Below.setCell ?_ (by simp) _ | refine below_drewN' ?_ _)))) _ rfl (one_sl (by simp)) (by unfold maxLen; simp; omega) (by simp; omega) (by first | omega | (simp; omega) | simp) ?_; intro v3 w3 ho3 hg3 hb3 hn3)
        go_ret
        refine ⟨_, rfl, by unfold lenB; rw [if_pos hl]; exact ho3, Below.trans (HBV.out.trans ?_) hb3⟩
        (repeat (first | exact Below.refl _ _ | exact below_drewN _ | refine Below.drew ?_ | refine Below.alloc ?_ (by first | omega | (simp; done) | (simp; omega)) _ | refine Below.setCell ?_ (by first | (simp; done) | (simp; omega)) _ | refine below_drewN' ?_ _))
      · have hlb : lenB len = (128 + ((be len.toNat).length : Int)) :: be len.toNat := by unfold lenB; rw [if_neg hl]
        have hbl := be_len 4 len.toNat (by omega)
        have HLN := hid hlb
        clear hlb
        go_wp2_with (fail)
        go_loopw [5, 6] (fun lv nv wr => ∃ (m : Nat) (ls : List Int), nv = .int .i64 m ∧ m ≤ 2147483647 ∧ Hid (Own .u8 5 W1.heap.size wr lv ls) ∧ Hid (Own .u8 5 w.heap.size wr vb ys) ∧ Hid (be m ++ ls = be len.toNat) ∧ ls.length ≤ 4 ∧ Hid (Below w.heap.size w wr) ∧ W1.heap.size ≤ wr.heap.size) (fun _ nv _ => (intOf nv).toNat)
        case atStart => exact ⟨len.toNat, [], by congr 1; omega, by omega, Own.nil _ _ _ _, HVB.out, by simp [Hid], by simp, HBV.out, Nat.le_refl _⟩
        case round =>
          obtain ⟨m, ls, rfl, hm, hown, hvb, heq, hlen, hbel, hsz⟩ := hrel
          rcases Nat.eq_zero_or_pos m with h0 | h0
          · subst h0
            have hq := heq.out
            rw [be_zero, List.nil_append] at hq
            have HQ := hid hq
            clear hq
            obtain ⟨al, capl, hal, -, -, -⟩ := hown.out.sl
            subst hal
            have tok : True := trivial
            go_wp2_with (first
              | (at_builtin; have _t := tok; clear tok; refine wpList_app _ rfl _ _ 42 rfl .u8 w.heap.size 5 1 Tryz.underlying42 Tryz.infoU8 _ ys [128 + (ls.length : Int)] rfl (hvb.out.below (by (repeat (first | exact Below.refl _ _ | exact below_drewN _ | refine Below.drew ?_ | refine Below.alloc ?_ (by simp) _ | refine Below.setCell ?_ (by simp) _ | refine below_drewN' ?_ _)))) _ rfl (one_sl (by simp)) (by unfold maxLen; simp; omega) (by simp; omega) (by first | omega | (simp; omega) | simp) ?_; intro v3 w3 ho3 hg3 hb3 hn3; have HO3 := hid ho3; have HL3 := hid (Own.apart (hown.out.alloc _) HVL.out hg3); have HB3 := hid (Below.trans (hbel.out.trans (show Below w.heap.size wr _ by (repeat (first | exact Below.refl _ _ | exact below_drewN _ | refine Below.drew ?_ | refine Below.alloc ?_ (by first | omega | (simp; done) | (simp; omega)) _ | refine Below.setCell ?_ (by first | (simp; done) | (simp; omega)) _ | refine below_drewN' ?_ _)))) hb3); have hz3 := hb3.size; simp at hz3)
              | (at_builtin; refine wpList_app _ rfl _ _ 42 rfl .u8 w.heap.size 5 1 Tryz.underlying42 Tryz.infoU8 _ (ys ++ [128 + (ls.length : Int)]) ls rfl HO3.out _ rfl HL3.out.sl (by unfold maxLen; simp; omega) (by simp; omega) (by first | omega | (simp; omega) | simp) ?_; intro v4 w4 ho4 hg4 hb4 hn4))
            go_ret
            refine ⟨_, rfl, ?_, HB3.out.trans hb4⟩
            rw [HLN.out, ← HQ.out]
            simpa using ho4
          · have e1 : (m : Int) / 256 = ((m / 256 : Nat) : Int) := by omega
            have e2 : (m : Int) % 256 = ((m % 256 : Nat) : Int) := by omega
            have E1 := hid e1
            have E2 := hid e2
            clear e1 e2
            have hp : (0 : Int) < (m : Int) := by omega
            go_wp2_with (at_builtin; refine wpList_app _ rfl _ _ 42 rfl .u8 wr.heap.size 5 1 Tryz.underlying42 Tryz.infoU8 _ [(m : Int) % 256] ls rfl (lit_own rfl (Nat.le_refl _) rfl rfl (by simp)) _ rfl (hown.out.sl.below (by (repeat (first | exact Below.refl _ _ | exact below_drewN _ | refine Below.drew ?_ | refine Below.alloc ?_ (by simp) _ | refine Below.setCell ?_ (by simp) _ | refine below_drewN' ?_ _)))) (by unfold maxLen; simp; omega) (by simp; omega) (by first | omega | (simp; omega) | simp) ?_; intro v2 w2 ho2 hg2 hb2 hn2)
            have hz2 := hg2.size
            simp at hz2
            have hl2 : (be m ++ ls).length = (be len.toNat).length := by rw [heq.out]
            rw [be_pos (by omega)] at hl2
            simp at hl2
            have hbr : Below wr.heap.size wr w2 := Below.trans (by (repeat (first | exact Below.refl _ _ | exact below_drewN _ | refine Below.drew ?_ | refine Below.alloc ?_ (by simp) _ | refine Below.setCell ?_ (by simp) _ | refine below_drewN' ?_ _))) hb2
            go_roundw
            case rel =>
              refine ⟨m / 256, [(m : Int) % 256] ++ ls, by rw [E1.out], by omega, ho2.mono (by omega), hvb.out.below hbr, ?_, by simp; omega, hbel.out.trans (hbr.mono (by omega)), by omega⟩
              show _ = _
              rw [← heq.out, be_pos (n := m) (by omega), E2.out]
              simp
            case measure =>
              rw [E1.out]
              simp [intOf]
              omega
    · have q3 := qc rfl
      clear qc q0
      unfold Hd.val
      dsimp only
      go_enter Tryz.func56, Tryz.ntmps56
      have tok0 : True := trivial
      go_upto_region 8 with (first
        | (go_at_call 77; refine (refSept tag _ (by omega) (by omega)).mono ?_; rintro e w0 ⟨v0, rfl, ho0, hb0⟩; have HO0 := hid ho0; have HX0 := hid (Box.below ((Box.made w 61 [.int .i64 cls, .int .i64 tag, .bool true, .int .i64 len, .int .i64 size]).alloc (.cells #[.int .u8 (F + 31)] 5)) hb0 (by simp; omega)); have HLB := hid ((lit_own (k := .u8) (xs := [F + 31]) (e := 5) (base := w.heap.size) (w := w.alloc (.cells #[.int .i64 cls, .int .i64 tag, .bool true, .int .i64 len, .int .i64 size] 61)) (n := w.heap.size + 1) (len := 1) (by simp) (by simp) rfl rfl (by simp)).below hb0); have HB0 := hid (Below.trans (show Below w.heap.size w _ by (repeat (first | exact Below.refl _ _ | exact below_drewN _ | refine Below.drew ?_ | refine Below.alloc ?_ (by simp) _ | refine Below.setCell ?_ (by simp) _ | refine below_drewN' ?_ _))) (hb0.mono (by first | omega | (simp; omega) | simp))); have hz0 := hb0.size; simp at hz0; clear ho0 hb0)
        | (at_builtin; refine wpList_app _ rfl _ _ 42 rfl .u8 w.heap.size 5 1 Tryz.underlying42 Tryz.infoU8 _ [F + 31] (sept tag.toNat) rfl HLB.out _ rfl HO0.out.sl (by unfold maxLen; simp; omega) (by simp; omega) (by first | omega | (simp; omega) | simp) ?_; intro vb W1 ho1 hg1 hb1 hn1; have HVB := hid ho1; have HXB := hid (Box.grown HX0.out HLB.out hg1 (by decide)); have HBV := hid (HB0.out.trans hb1); clear hn1 hb1 hg1 ho1))
      have hyq : [F + 31] ++ sept tag.toNat = ys := by rw [HY.out]; unfold idB; rw [if_neg (by dsimp only; omega), HFF.out]; rfl
      rw [hyq] at HVB
      clear hyq
      have HVL := hid HVB.out.lt'
      have hz1 := HBV.out.size
      have hxB := HXB.out.cell 3
      by_cases hl : len < 128
      · go_wp2_with (at_builtin; refine wpList_app _ rfl _ _ 42 rfl .u8 w.heap.size 5 1 Tryz.underlying42 Tryz.infoU8 _ ys [len] rfl (HVB.out.below (by (repeat (first | exact Below.refl _ _ | exact below_drewN _ | refine Below.drew ?_ | refine Below.alloc ?_ (by simp) _ | refine Below.setCell ?_ (by simp) _ | refine below_drewN' ?_ _)))) _ rfl (one_sl (by simp)) (by unfold maxLen; simp; omega) (by simp; omega) (by first | omega | (simp; omega) | simp) ?_; intro v3 w3 ho3 hg3 hb3 hn3)
        go_ret
        refine ⟨_, rfl, by unfold lenB; rw [if_pos hl]; exact ho3, Below.trans (HBV.out.trans ?_) hb3⟩
        (repeat (first | exact Below.refl _ _ | exact below_drewN _ | refine Below.drew ?_ | refine Below.alloc ?_ (by first | omega | (simp; done) | (simp; omega)) _ | refine Below.setCell ?_ (by first | (simp; done) | (simp; omega)) _ | refine below_drewN' ?_ _))
      · have hlb : lenB len = (128 + ((be len.toNat).length : Int)) :: be len.toNat := by unfold lenB; rw [if_neg hl]
        have hbl := be_len 4 len.toNat (by omega)
        have HLN := hid hlb
        clear hlb
        go_wp2_with (fail)
        go_loopw [5, 6] (fun lv nv wr => ∃ (m : Nat) (ls : List Int), nv = .int .i64 m ∧ m ≤ 2147483647 ∧ Hid (Own .u8 5 W1.heap.size wr lv ls) ∧ Hid (Own .u8 5 w.heap.size wr vb ys) ∧ Hid (be m ++ ls = be len.toNat) ∧ ls.length ≤ 4 ∧ Hid (Below w.heap.size w wr) ∧ W1.heap.size ≤ wr.heap.size) (fun _ nv _ => (intOf nv).toNat)
        case atStart => exact ⟨len.toNat, [], by congr 1; omega, by omega, Own.nil _ _ _ _, HVB.out, by simp [Hid], by simp, HBV.out, Nat.le_refl _⟩
        case round =>
          obtain ⟨m, ls, rfl, hm, hown, hvb, heq, hlen, hbel, hsz⟩ := hrel
          rcases Nat.eq_zero_or_pos m with h0 | h0
          · subst h0
            have hq := heq.out
            rw [be_zero, List.nil_append] at hq
            have HQ := hid hq
            clear hq
            obtain ⟨al, capl, hal, -, -, -⟩ := hown.out.sl
            subst hal
            have tok : True := trivial
            go_wp2_with (first
              | (at_builtin; have _t := tok; clear tok; refine wpList_app _ rfl _ _ 42 rfl .u8 w.heap.size 5 1 Tryz.underlying42 Tryz.infoU8 _ ys [128 + (ls.length : Int)] rfl (hvb.out.below (by (repeat (first | exact Below.refl _ _ | exact below_drewN _ | refine Below.drew ?_ | refine Below.alloc ?_ (by simp) _ | refine Below.setCell ?_ (by simp) _ | refine below_drewN' ?_ _)))) _ rfl (one_sl (by simp)) (by unfold maxLen; simp; omega) (by simp; omega) (by first | omega | (simp; omega) | simp) ?_; intro v3 w3 ho3 hg3 hb3 hn3; have HO3 := hid ho3; have HL3 := hid (Own.apart (hown.out.alloc _) HVL.out hg3); have HB3 := hid (Below.trans (hbel.out.trans (show Below w.heap.size wr _ by (repeat (first | exact Below.refl _ _ | exact below_drewN _ | refine Below.drew ?_ | refine Below.alloc ?_ (by first | omega | (simp; done) | (simp; omega)) _ | refine Below.setCell ?_ (by first | (simp; done) | (simp; omega)) _ | refine below_drewN' ?_ _)))) hb3); have hz3 := hb3.size; simp at hz3)
              | (at_builtin; refine wpList_app _ rfl _ _ 42 rfl .u8 w.heap.size 5 1 Tryz.underlying42 Tryz.infoU8 _ (ys ++ [128 + (ls.length : Int)]) ls rfl HO3.out _ rfl HL3.out.sl (by unfold maxLen; simp; omega) (by simp; omega) (by first | omega | (simp; omega) | simp) ?_; intro v4 w4 ho4 hg4 hb4 hn4))
            go_ret
            refine ⟨_, rfl, ?_, HB3.out.trans hb4⟩
            rw [HLN.out, ← HQ.out]
            simpa using ho4
          · have e1 : (m : Int) / 256 = ((m / 256 : Nat) : Int) := by omega
            have e2 : (m : Int) % 256 = ((m % 256 : Nat) : Int) := by omega
            have E1 := hid e1
            have E2 := hid e2
            clear e1 e2
            have hp : (0 : Int) < (m : Int) := by omega
            go_wp2_with (at_builtin; refine wpList_app _ rfl _ _ 42 rfl .u8 wr.heap.size 5 1 Tryz.underlying42 Tryz.infoU8 _ [(m : Int) % 256] ls rfl (lit_own rfl (Nat.le_refl _) rfl rfl (by simp)) _ rfl (hown.out.sl.below (by (repeat (first | exact Below.refl _ _ | exact below_drewN _ | refine Below.drew ?_ | refine Below.alloc ?_ (by simp) _ | refine Below.setCell ?_ (by simp) _ | refine below_drewN' ?_ _)))) (by unfold maxLen; simp; omega) (by simp; omega) (by first | omega | (simp; omega) | simp) ?_; intro v2 w2 ho2 hg2 hb2 hn2)
            have hz2 := hg2.size
            simp at hz2
            have hl2 : (be m ++ ls).length = (be len.toNat).length := by rw [heq.out]
            rw [be_pos (by omega)] at hl2
            simp at hl2
            have hbr : Below wr.heap.size wr w2 := Below.trans (by (repeat (first | exact Below.refl _ _ | exact below_drewN _ | refine Below.drew ?_ | refine Below.alloc ?_ (by simp) _ | refine Below.setCell ?_ (by simp) _ | refine below_drewN' ?_ _))) hb2
            go_roundw
            case rel =>
              refine ⟨m / 256, [(m : Int) % 256] ++ ls, by rw [E1.out], by omega, ho2.mono (by omega), hvb.out.below hbr, ?_, by simp; omega, hbel.out.trans (hbr.mono (by omega)), by omega⟩
              show _ = _
              rw [← heq.out, be_pos (n := m) (by omega), E2.out]
              simp
            case measure =>
              rw [E1.out]
              simp [intOf]
              omega

end Go.Proofs.YtildhebaikeknaaGreat

/-! RefWrap -/
namespace Go.Proofs.YtildhebaikeknaaGreat
open Go.RowKit

theorem refWrap (c t : Int) (b : Bool) (v : Value) (xs : List Int) (w : World) (h : Sl .u8 w v xs) (hok : HdOk ⟨c, t, b, xs.length, 0⟩) (hl : xs.length ≤ 1000000000000) :
    Calls Tryz.prog 39 #[.int .i64 c, .int .i64 t, .bool b, v] w fun e w' => ∃ v', e = .returned v' ∧ Own .u8 5 w.heap.size w' v' (hdB ⟨c, t, b, xs.length, 0⟩ ++ xs) ∧ Below w.heap.size w w' := by
  have HS := hid h
  have hlh := hdB_len hok
  have HOK := hid hok
  clear hok
  obtain ⟨a, cap, rfl, -, -, -⟩ := h
  go_enter Tryz.func39, Tryz.ntmps39
  go_wp2_with (first
    | (go_at_call 56; refine (refHeadBytes ⟨c, t, b, xs.length, 0⟩ _ HOK.out).mono ?_; rintro e w1 ⟨v1, rfl, ho1, hb1⟩; have HO1 := hid ho1; have HB1 := hid hb1; have hz1 := hb1.size; clear ho1 hb1)
    | (at_builtin; refine wpList_app _ rfl _ _ 42 rfl .u8 w.heap.size 5 1 Tryz.underlying42 Tryz.infoU8 _ (hdB ⟨c, t, b, xs.length, 0⟩) xs rfl HO1.out _ rfl (HS.out.below HB1.out) (by unfold maxLen; simp; omega) (by simp; omega) (by first | omega | (simp; omega) | simp) ?_; intro v2 w2 ho2 hg2 hb2 hn2))
  go_ret
  exact ⟨_, rfl, ho2, HB1.out.trans hb2⟩

end Go.Proofs.YtildhebaikeknaaGreat
