/- Contracts of the document's own answers: whether a header fits its tag; the parts of a content that is right. -/
import Derived.Test.YtgjjncoelbhpeaaRef3
import Derived.Test.YtgjjncoelbhpeaaWell5
namespace Go.Proofs.Ytgjjncoelbhpeaa
open Go.RowKit

set_option maxHeartbeats 1000000 in
theorem refRight (h : Hd) (w : World) :
    Calls Try.prog 25 #[h.val] w fun e w' => e = .returned (.bool (rightS h)) ∧ Below w.heap.size w w' := by
  obtain ⟨cls, tag, cons, len, size⟩ := h
  unfold Hd.val
  dsimp only
  by_cases hc : cls = 0
  · subst hc
    by_cases ht : 31 ≤ tag
    · have hr : rightS ⟨0, tag, cons, len, size⟩ = true := by simp [rightS, ht]
      rw [hr]
      go_enter Try.func25, Try.ntmps25
      go_wp2
      go_ret
      exact ⟨rfl, by (repeat (first | exact Below.refl _ _ | exact below_drewN _ | refine Below.drew ?_ | refine Below.alloc ?_ (by simp) _ | refine Below.setCell ?_ (by simp) _ | refine below_drewN' ?_ _))⟩
    · rcases (show (tag = 8 ∨ tag = 11 ∨ tag = 16 ∨ tag = 17) ∨ (tag ≠ 8 ∧ tag ≠ 11 ∧ tag ≠ 16 ∧ tag ≠ 17) by omega) with h | h
      · rcases h with rfl | rfl | rfl | rfl
        all_goals
          go_enter Try.func25, Try.ntmps25
          go_wp2
          go_ret
          exact ⟨ret_bool (by cases cons <;> rfl), by (repeat (first | exact Below.refl _ _ | exact below_drewN _ | refine Below.drew ?_ | refine Below.alloc ?_ (by simp) _ | refine Below.setCell ?_ (by simp) _ | refine below_drewN' ?_ _))⟩
      have e1 : (tag == 8) = false := by simp; omega
      have e2 : (tag == 11) = false := by simp; omega
      have e3 : (tag == 16) = false := by simp; omega
      have e4 : (tag == 17) = false := by simp; omega
      have hr : rightS ⟨0, tag, cons, len, size⟩ = !cons := by
        have h1 : ¬ (tag = 8 ∨ tag = 11 ∨ tag = 16 ∨ tag = 17) := by omega
        simp [rightS, ht, h1]
      rw [hr]
      clear h
      go_enter Try.func25, Try.ntmps25
      go_wp2
      go_ret
      exact ⟨ret_bool (by cases cons <;> rfl), by (repeat (first | exact Below.refl _ _ | exact below_drewN _ | refine Below.drew ?_ | refine Below.alloc ?_ (by simp) _ | refine Below.setCell ?_ (by simp) _ | refine below_drewN' ?_ _))⟩
  · have hcc : (cls != 0) = true := by simp [hc]
    have hr : rightS ⟨cls, tag, cons, len, size⟩ = true := by simp [rightS, hc]
    rw [hr]
    clear hc
    go_enter Try.func25, Try.ntmps25
    go_wp2
    go_ret
    exact ⟨rfl, by (repeat (first | exact Below.refl _ _ | exact below_drewN _ | refine Below.drew ?_ | refine Below.alloc ?_ (by simp) _ | refine Below.setCell ?_ (by simp) _ | refine below_drewN' ?_ _))⟩

theorem oneR_of {xs : List Int} (hu : U8 xs) (h : headE xs = 0) : oneR xs = ((rd xs).1, (rd xs).1.size + (rd xs).1.len, 0) := by
  obtain ⟨h1, _, _, h4, _⟩ := headE_ok hu h
  have hr : rd xs = ((rd xs).1, 0) := by rw [← h1]
  have := oneS_of hr (by omega)
  unfold oneR
  rw [this, if_pos rfl]

theorem refOne' (v : Value) (xs : List Int) (w : World) (h : Sl .u8 w v xs) (hu : U8 xs) {c t l s n E : Int} {b : Bool} (hr : oneR xs = (⟨c, t, b, l, s⟩, n, E)) :
    Calls Try.prog 26 #[v] w fun e w' => e = .returned (.tuple #[.agg #[.int .i64 c, .int .i64 t, .bool b, .int .i64 l, .int .i64 s], .int .i64 n, .int .i64 E]) ∧ Below w.heap.size w w' := by
  have := refOne v xs w h hu
  rw [hr] at this
  exact this

set_option maxHeartbeats 2000000 in
theorem refParts (v : Value) (zs : List Int) (w : World) (h : Sl .u8 w v zs) (hu : U8 zs) (hl : zs.length ≤ 1000000000000) (hin : (listW (valW 31) zs).e = 0) :
    Calls Try.prog 19 #[v] w fun x w' => ∃ v', x = .returned v' ∧ OwnRows 22 5 w.heap.size w' v' (partsS zs) ∧ Below w.heap.size w w' := by
  have HVR := hid h
  have HIN := hid hin
  obtain ⟨a, cap, rfl, -, -, -⟩ := h
  clear hin
  go_enter Try.func19, Try.ntmps19
  go_wp2
  go_loopw [0, 3] (fun r l wr => ∃ (rs : List Int) (acc : List (List Int)) (a8 : Option Addr) (c8 : Nat), r = .slice a8 rs.length c8 ∧ acc.length + rs.length ≤ zs.length ∧ Hid (Sl .u8 w (.slice a8 rs.length c8) rs) ∧ Hid (U8 rs) ∧ Hid ((listW (valW 31) rs).e = 0) ∧ Hid (acc ++ partsS rs = partsS zs) ∧ Hid (OwnRows 22 5 w.heap.size wr l acc) ∧ Hid (Below w.heap.size w wr)) (fun r _ _ => lenOf r)
  case atStart => exact ⟨zs, [], a, cap, rfl, by simp, HVR, hu, HIN, by show _ = _; rw [List.nil_append], OwnRows.nil _ _ _ _, Below.refl _ _⟩
  case round =>
    obtain ⟨rs, acc, a9, c9, rfl, hacc, hsl, hru, hli, hpa, hrow, hbl⟩ := hrel
    clear HVR hu
    by_cases hrs : rs = []
    · subst hrs
      simp only [List.length_nil]
      go_wp2
      go_ret
      refine ⟨_, rfl, ?_, hbl.out⟩
      have := hpa.out
      rw [partsS_nil, List.append_nil] at this
      rw [← this]
      exact hrow.out
    · obtain ⟨g0, g1, g2⟩ := listW_cut hru.out hrs hli.out
      obtain ⟨i0, i1, i2⟩ := ends_of hru.out g2
      have hone := oneR_of hru.out g2
      have hpp := partsS_on hrs (show 0 < endS rs by omega)
      have hsum : (rd rs).1.size + (rd rs).1.len = (endS rs : Int) := by
        obtain ⟨_, ⟨_, _, l0, _⟩, s0, _⟩ := headE_ok hru.out g2
        unfold endS
        omega
      rw [hsum] at hone
      obtain ⟨⟨cl2, tg2, cn2, ln2, sz2⟩, hhd⟩ : ∃ h, h = (rd rs).1 := ⟨_, rfl⟩
      rw [← hhd] at hone
      have HONE := hid hone
      have HPP := hid hpp
      have HG1 := hid g1
      have hn2 : 1 ≤ endS rs := by omega
      have hrl : 0 < rs.length := by omega
      have hrl2 : (0 : Int) < (rs.length : Int) := by omega
      clear hhd hone hpp g1 g2 g0 i1 hsum
      generalize endS rs = n2 at *
      obtain ⟨v7, hr1, hr2, hr7⟩ := cut_all (P := Try.prog) w 22 5 Try.underlying22 Try.infoU8 .u8 _ rs hsl.out (some (.int .i64 (n2 : Int))) none n2 rs.length (.inr ⟨_, rfl⟩) (.inl ⟨rfl, rfl⟩) (by omega) (by omega)
      have HV7 : Hid (Sl .u8 w v7 (rs.drop n2)) := by
        have := hr7 w hsl.out
        rw [List.take_of_length_le (by rw [List.length_drop]; omega)] at this
        exact this
      clear hr7
      obtain ⟨a7, c7, hv7, -⟩ := id HV7.out
      generalize hn7 : (rs.drop n2).length = n7 at hv7
      subst hv7
      have HN7 := hid hn7
      clear hn7
      go_wp2_with (first
        | (go_at_call 26; refine (refOne' _ rs _ (hsl.out.below hbl.out) hru.out HONE.out).mono ?_; rintro x w4 ⟨rfl, hb4⟩; have HB4 := hid (hb4.alloc hb4.size (.cells #[.int .i64 cl2, .int .i64 tg2, .bool cn2, .int .i64 ln2, .int .i64 sz2] 35)); have HR4 := hid (hrow.out.below HB4.out); have HC4 := hid (hbl.out.trans (HB4.out.mono hbl.out.size)); have HS4 := hid (hsl.out.below HC4.out))
        | (with_reducible refine at_to ?_; refine wpList_to _ rfl _ _ 22 rfl .u8 5 1 Try.underlying22 Try.infoU8 (.slice a9 rs.length c9) rs rfl HS4.out .i64 (n2 : Int) rfl (by omega) (by omega) ?_; rw [Int.toNat_natCast]; intro v1 hv1; have HV1 := hid hv1; clear hv1)
        | (go_at_call 10; refine (keepTwin _ (rs.take n2) _ HV1.out (by simp; omega)).mono ?_; rintro x w5 ⟨v5, rfl, ho5, hb5⟩; obtain ⟨a5, c5, hv5, -⟩ := ho5.sl; generalize (rs.take n2).length = n5 at hv5; subst hv5; have HO5 := hid ho5; have HB5 := hid hb5; clear ho5 hb5; have HW5 := hid ((Below.refl w5.heap.size w5).alloc (Nat.le_refl _) (.cells #[.slice a5 n5 c5] 22)); have HR5 := hid ((HR4.out.below HB5.out).below HW5.out); have HC5 := hid ((HC4.out.trans (HB5.out.mono HC4.out.size)).alloc (HC4.out.trans (HB5.out.mono HC4.out.size)).size (.cells #[.slice a5 n5 c5] 22)))
        | (at_builtin; refine wpList_appRow _ rfl _ _ 27 rfl w.heap.size 22 5 (by decide) 24 Try.underlying27 Try.infoRow u3 acc rfl HR5.out w5.heap.size (.slice a5 n5 c5) (rs.take n2) rfl (by rw [cell_of_row _ w5.heap.size 0 #[.slice a5 n5 c5] 22 (0, 0) (heap_alloc_new w5 _)]; rfl) ((HO5.out.mono HC4.out.size).alloc _) (by unfold maxLen; omega) (by omega) HC5.out.size ?_; intro v6 w6 hr6 hb6; have HR6 := hid hr6; have HB6 := hid hb6; have HC6 := hid (HC5.out.trans hb6); clear hr6 hb6))
      go_roundw
      case rel =>
        have hn7 := HN7.out
        rw [List.length_drop] at hn7
        refine ⟨rs.drop n2, acc ++ [rs.take n2], a7, c7, by rw [HN7.out], by simp; omega, by rw [HN7.out]; exact HV7, hid (hru.out.drop _), HG1, ?_, HR6, HC6⟩
        show _ = _
        have := hpa.out
        rw [HPP.out] at this
        rw [List.append_assoc]
        exact this
      case measure =>
        have hn7 := HN7.out
        rw [List.length_drop] at hn7
        simp [lenOf]; omega

end Go.Proofs.Ytgjjncoelbhpeaa
