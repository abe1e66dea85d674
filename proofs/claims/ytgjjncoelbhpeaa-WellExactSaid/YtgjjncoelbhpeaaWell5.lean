/- Contracts of package well's fresh and Parts: a copy in new memory; the parts of a value, each in new memory of its own. -/
import Derived.Test.YtgjjncoelbhpeaaWell4
import Derived.Test.YtgjjncoelbhpeaaGrid
namespace Go.Proofs.Ytgjjncoelbhpeaa
open Go.RowKit

theorem Try.infoRow : (Try.prog.info? 22).map (fun i => (i.zero, i.size, i.bytes)) = some (some (.slice none 0 0), 1, 24) := by kernel_rfl

theorem wellFresh (v : Value) (xs : List Int) (w : World) (h : Sl .u8 w v xs) (hl : xs.length ≤ 100000000000000) :
    Calls Try.prog 24 #[v] w fun e w' => ∃ v', e = .returned v' ∧ Own .u8 5 w.heap.size w' v' xs ∧ Below w.heap.size w w' := by
  have H := hid h
  obtain ⟨a, cap, rfl, -, -, -⟩ := h
  obtain ⟨i0, hi, hz0, hz1, hz2⟩ := info_parts Try.infoU8
  go_enter Try.func24, Try.ntmps24
  go_wp2_with (first
    | (at_make; refine wpList_make_own _ rfl _ _ 22 rfl w.heap.size 5 i0 (.int .u8 0) 1 Try.underlying22 hi hz0 hz1 _ _ _ xs.length rfl rfl rfl (by rw [hz2]; omega) (by unfold maxLen; omega) (by omega) ?_; intro w1 ho1 hg1; have hb1 := hid ((Below.refl w.heap.size w).grown hg1 (Nat.le_refl _) (fun _ h => by cases h)); clear hg1)
    | (at_builtin; refine wpList_app _ rfl _ _ 22 rfl .u8 w.heap.size 5 1 Try.underlying22 Try.infoU8 _ [] xs rfl ho1 _ rfl (H.out.below hb1.out) (by unfold maxLen; simp; omega) (by simp; omega) (hb1.out.size) ?_; intro v' w' ho hg hb hn))
  go_ret
  exact ⟨_, rfl, ho, hb1.out.trans hb⟩

def lenOf : Value → Nat | .slice _ n _ => n | _ => 0

theorem wellS_ok {xs : List Int} {p d : Nat} (hu : U8 xs) (h : wellS xs = ⟨0, p, d⟩) : (valW 32 xs).e = 0 ∧ (valW 32 xs).pos = xs.length ∧ endS xs = xs.length ∧ headE xs = 0 ∧ (valW 32 xs).deep = d ∧ p = 0 := by
  unfold wellS at h
  split at h
  · rename_i he; injection h with h1; exact absurd h1 he
  · rename_i he
    have he : (valW 32 xs).e = 0 := by omega
    split at h
    · injection h with h1; cases h1
    · rename_i hp
      injection h with h1 h2 h3
      have hb := valW_bd 32 xs hu
      have h4 := valW_pos he
      exact ⟨he, by omega, by omega, valW_head he, h3, h2.symm⟩

theorem valW_in {k : Nat} {xs : List Int} (h : (valW (k + 1) xs).e = 0) (hc : (rd xs).1.cons = true) : (listW (valW k) (bodyS xs)).e = 0 ∧ (valW (k + 1) xs).deep = (listW (valW k) (bodyS xs)).deep + 1 := by
  have hE := valW_head h
  change (oneW (listW (valW k)) xs).e = 0 at h
  show _ ∧ (oneW (listW (valW k)) xs).deep = _
  rw [oneW_in hE hc] at h ⊢
  split at h
  · rename_i hh; exact absurd h hh
  · rename_i hh; rw [if_neg hh]; exact ⟨by omega, rfl⟩

set_option maxHeartbeats 1000000 in
theorem wellPartsBad (v : Value) (xs : List Int) (w : World) (h : Sl .u8 w v xs) (hu : U8 xs) {e : Int} {p d : Nat} (hr : wellS xs = ⟨e, p, d⟩) (he : e ≠ 0) :
    Calls Try.prog 12 #[v] w fun x w' => x = .returned (.tuple #[.slice none 0 0, .int .i64 e]) ∧ Below w.heap.size w w' := by
  have HS := hid h
  have HR := hid hr
  have hE1 : (e != 0) = true := by simp [he]
  obtain ⟨a, cap, rfl, -, -, -⟩ := h
  clear hr he
  go_enter Try.func12, Try.ntmps12
  go_wp2_with (go_at_call 11; refine (wellCheck _ xs _ HS.out hu HR.out).mono ?_; rintro x w2 ⟨rfl, hb2⟩; have HB2 := hid hb2)
  go_ret2
  exact ⟨rfl, HB2.out⟩

set_option maxHeartbeats 1000000 in
theorem wellPartsLeaf (v : Value) (xs : List Int) (w : World) (h : Sl .u8 w v xs) (hu : U8 xs) {p d : Nat} (hr : wellS xs = ⟨0, p, d⟩) (hc : ¬ (rd xs).1.cons = true) :
    Calls Try.prog 12 #[v] w fun x w' => x = .returned (.tuple #[.slice none 0 0, .int .i64 7]) ∧ Below w.heap.size w w' := by
  have HS := hid h
  have HR := hid hr
  obtain ⟨_, _, _, hE, _, _⟩ := wellS_ok hu hr
  have h2 := (headE_ok hu hE).1
  obtain ⟨⟨⟨cls, tag, cons, len, size⟩, E⟩, hrd⟩ : ∃ r, r = rd xs := ⟨_, rfl⟩
  rw [← hrd] at h2 hc
  dsimp only at h2 hc
  subst h2
  obtain rfl : cons = false := by simpa using hc
  have HD := hid hrd.symm
  obtain ⟨a, cap, rfl, -, -, -⟩ := h
  clear hr hE hc hrd
  go_enter Try.func12, Try.ntmps12
  go_wp2_with (first
    | (go_at_call 11; refine (wellCheck _ xs _ HS.out hu HR.out).mono ?_; rintro x w2 ⟨rfl, hb2⟩; have HB2 := hid hb2)
    | (go_at_call 22; refine (readHead' _ xs _ (HS.out.below HB2.out) hu HD.out).mono ?_; rintro x w3 ⟨rfl, hb3⟩; have HB3 := hid (HB2.out.trans (hb3.mono HB2.out.size))))
  go_ret2
  exact ⟨rfl, HB3.out.alloc HB3.out.size _⟩

set_option maxHeartbeats 2000000 in
theorem wellPartsOk (v : Value) (xs : List Int) (w : World) (h : Sl .u8 w v xs) (hu : U8 xs) (hl : xs.length ≤ 1000000000000) {p d : Nat} (hr : wellS xs = ⟨0, p, d⟩) (hc : (rd xs).1.cons = true) :
    Calls Try.prog 12 #[v] w fun x w' => ∃ v', x = .returned (.tuple #[v', .int .i64 0]) ∧ OwnRows 22 5 w.heap.size w' v' (partsS (bodyS xs)) ∧ Below w.heap.size w w' := by
  have HS := hid h
  have HR := hid hr
  obtain ⟨h0, _, h1, hE, _, _⟩ := wellS_ok hu hr
  have h2 := (headE_ok hu hE).1
  have hin := (valW_in h0 hc).1
  obtain ⟨e0, e1, e2⟩ := ends_of hu hE
  have hs0 : (rd xs).1.size = (szS xs : Int) := by
    have := (headE_ok hu hE).2.2.1
    unfold szS; omega
  have hbody : xs.drop (szS xs) = bodyS xs := by
    have hbl : bodyS xs = (xs.drop (szS xs)).take (bodyS xs).length := by
      unfold bodyS
      rw [List.length_take]
      rw [List.take_eq_take_iff]
      omega
    rw [hbl, List.take_of_length_le]
    rw [List.length_drop]
    omega
  have hbu := bodyS_u8 hu
  obtain ⟨⟨⟨cls, tag, cons, len, size⟩, E⟩, hrd⟩ : ∃ r, r = rd xs := ⟨_, rfl⟩
  rw [← hrd] at h2 hc hs0
  dsimp only at h2 hc hs0
  subst h2 hc hs0
  have HD := hid hrd.symm
  generalize szS xs = s at *
  obtain ⟨zs, hzs⟩ : ∃ zs, zs = bodyS xs := ⟨_, rfl⟩
  rw [← hzs] at hin hbody hbu e1 ⊢
  have HIN := hid hin
  have HBD := hid hbody
  obtain ⟨a, cap, rfl, -, -, -⟩ := h
  clear hr hE hrd hzs hin hbody h0
  obtain ⟨vr, hr1, hr2, hrs⟩ := cut_all (P := Try.prog) w 22 5 Try.underlying22 Try.infoU8 .u8 _ xs HS.out (some (.int .i64 (s : Int))) none s xs.length (.inr ⟨_, rfl⟩) (.inl ⟨rfl, rfl⟩) (by omega) (by omega)
  have HVR : Hid (Sl .u8 w vr zs) := by
    have := hrs w HS.out
    rw [HBD.out, List.take_of_length_le (by omega)] at this
    exact this
  clear hrs
  go_enter Try.func12, Try.ntmps12
  go_wp2_with (first
    | (go_at_call 11; refine (wellCheck _ xs _ HS.out hu HR.out).mono ?_; rintro x w2 ⟨rfl, hb2⟩; have HB2 := hid hb2)
    | (go_at_call 22; refine (readHead' _ xs _ (HS.out.below HB2.out) hu HD.out).mono ?_; rintro x w3 ⟨rfl, hb3⟩; have HB3 := hid (HB2.out.trans (hb3.mono HB2.out.size))))
  have HBL := hid (HB3.out.alloc HB3.out.size (.cells #[.int .i64 cls, .int .i64 tag, .bool true, .int .i64 len, .int .i64 (s : Int)] 35))
  generalize w3.alloc (.cells #[.int .i64 cls, .int .i64 tag, .bool true, .int .i64 len, .int .i64 (s : Int)] 35) = W2 at HVR HBL ⊢
  have hzl : zs.length ≤ 1000000000000 := by omega
  clear hr1 hr2
  obtain ⟨a8, c8, hv8, _⟩ := id HVR.out
  subst hv8
  go_loopw [2, 8] (fun l r wr => ∃ (rs : List Int) (acc : List (List Int)) (a8 : Option Addr) (c8 : Nat), r = .slice a8 rs.length c8 ∧ acc.length + rs.length ≤ zs.length ∧ Hid (Sl .u8 w (.slice a8 rs.length c8) rs) ∧ Hid (U8 rs) ∧ Hid ((listW (valW 31) rs).e = 0) ∧ Hid (acc ++ partsS rs = partsS zs) ∧ Hid (OwnRows 22 5 w.heap.size wr l acc) ∧ Hid (Below w.heap.size w wr)) (fun _ r _ => lenOf r)
  case atStart => exact ⟨zs, [], a8, c8, rfl, by simp, HVR, hbu, HIN, by show _ = _; rw [List.nil_append], OwnRows.nil _ _ _ _, HBL⟩
  case round =>
    obtain ⟨rs, acc, a9, c9, rfl, hacc, hsl, hru, hli, hpa, hrow, hbl⟩ := hrel
    clear HBL HVR hbu
    by_cases hrs : rs = []
    · subst hrs
      simp only [List.length_nil]
      go_wp2
      go_ret2
      refine ⟨_, rfl, ?_, hbl.out⟩
      have := hpa.out
      rw [partsS_nil, List.append_nil] at this
      rw [← this]
      exact hrow.out
    · obtain ⟨g0, g1, g2⟩ := listW_cut hru.out hrs hli.out
      obtain ⟨i0, i1, i2⟩ := ends_of hru.out g2
      have i3 := (headE_ok hru.out g2).1
      have i4 : (rd rs).1.size = (szS rs : Int) := by
        have := (headE_ok hru.out g2).2.2.1
        unfold szS; omega
      have i5 : (rd rs).1.len = ((bodyS rs).length : Int) := by
        have := (headE_ok hru.out g2).2.1.2.2.1
        unfold endS at i1
        omega
      have hpp := partsS_on hrs (show 0 < endS rs by omega)
      obtain ⟨⟨⟨cl2, tg2, cn2, ln2, sz2⟩, E2⟩, hrd2⟩ : ∃ r, r = rd rs := ⟨_, rfl⟩
      rw [← hrd2] at i3 i4 i5
      dsimp only at i3 i4 i5
      subst i3 i4 i5
      have HD2 := hid hrd2.symm
      have HPP := hid hpp
      have HG1 := hid g1
      have HI1 := hid i1
      have hi1 : (szS rs : Int) + ((bodyS rs).length : Int) = (endS rs : Int) := by omega
      have HII := hid hi1
      have hn2 : 1 ≤ endS rs := by omega
      have hsl2 : (szS rs : Int) + ((bodyS rs).length : Int) ≤ 1000000000000 := by omega
      have hrl : 0 < rs.length := by omega
      have hrl2 : (0 : Int) < (rs.length : Int) := by omega
      clear hrd2 hpp g1 g2 g0 i1 hi1
      generalize szS rs = s2 at *
      generalize (bodyS rs).length = l2 at *
      generalize endS rs = n2 at *
      obtain ⟨v7, hr1, hr2, hr7⟩ := cut_all (P := Try.prog) w 22 5 Try.underlying22 Try.infoU8 .u8 _ rs hsl.out (some (.int .i64 (n2 : Int))) none n2 rs.length (.inr ⟨_, rfl⟩) (.inl ⟨rfl, rfl⟩) (by omega) (by omega)
      have HV7 : Hid (Sl .u8 w v7 (rs.drop n2)) := by
        have := hr7 w hsl.out
        rw [List.take_of_length_le (by rw [List.length_drop]; omega)] at this
        exact this
      clear hr7
      obtain ⟨a7, c7, hv7, -⟩ := id HV7.out
      generalize hn7 : (rs.drop n2).length = n7 at hv7
      subst hv7
      have HN7 := hid hn7
      clear hn7
      go_wp2_with (first
        | (go_at_call 22; refine (readHead' _ rs _ (hsl.out.below hbl.out) hru.out HD2.out).mono ?_; rintro x w4 ⟨rfl, hb4⟩; have HB4 := hid (hb4.alloc hb4.size (.cells #[.int .i64 cl2, .int .i64 tg2, .bool cn2, .int .i64 (l2 : Int), .int .i64 (s2 : Int)] 35)); have HR4 := hid (hrow.out.below HB4.out); have HC4 := hid (hbl.out.trans (HB4.out.mono hbl.out.size)); have HS4 := hid (hsl.out.below HC4.out))
        | (with_reducible refine at_to ?_; refine wpList_to _ rfl _ _ 22 rfl .u8 5 1 Try.underlying22 Try.infoU8 (.slice a9 rs.length c9) rs rfl HS4.out .i64 ((s2 : Int) + (l2 : Int)) rfl (by omega) (by have := HII.out; omega) ?_; rw [HII.out, Int.toNat_natCast]; intro v1 hv1; have HV1 := hid hv1; clear hv1)
        | (go_at_call 24; refine (wellFresh _ (rs.take n2) _ HV1.out (by simp; omega)).mono ?_; rintro x w5 ⟨v5, rfl, ho5, hb5⟩; obtain ⟨a5, c5, hv5, -⟩ := ho5.sl; generalize (rs.take n2).length = n5 at hv5; subst hv5; have HO5 := hid ho5; have HB5 := hid hb5; clear ho5 hb5; have HW5 := hid ((Below.refl w5.heap.size w5).alloc (Nat.le_refl _) (.cells #[.slice a5 n5 c5] 22)); have HR5 := hid ((HR4.out.below HB5.out).below HW5.out); have HC5 := hid ((HC4.out.trans (HB5.out.mono HC4.out.size)).alloc (HC4.out.trans (HB5.out.mono HC4.out.size)).size (.cells #[.slice a5 n5 c5] 22)))
        | (at_builtin; go_loud (refine wpList_appRow _ rfl _ _ 27 rfl w.heap.size 22 5 (by decide) 24 Try.underlying27 Try.infoRow u2 acc rfl HR5.out w5.heap.size (.slice a5 n5 c5) (rs.take n2) rfl (by rw [cell_of_row _ w5.heap.size 0 #[.slice a5 n5 c5] 22 (0, 0) (heap_alloc_new w5 _)]; rfl) ((HO5.out.mono HC4.out.size).alloc _) (by unfold maxLen; omega) (by omega) HC5.out.size ?_); intro v6 w6 hr6 hb6; have HR6 := hid hr6; have HB6 := hid hb6; have HC6 := hid (HC5.out.trans hb6); clear hr6 hb6))
      go_roundw
      case rel =>
        have hn7 := HN7.out
        rw [List.length_drop] at hn7
        refine ⟨rs.drop n2, acc ++ [rs.take n2], a7, c7, by rw [HN7.out], by simp; omega, by rw [HN7.out]; exact HV7, hid (hru.out.drop _), HG1, ?_, HR6, HC6⟩
        show _ = _
        have := hpa.out
        rw [HPP.out] at this
        rw [List.append_assoc]
        exact this
      case measure =>
        have hn7 := HN7.out
        rw [List.length_drop] at hn7
        simp [lenOf]; omega

end Go.Proofs.Ytgjjncoelbhpeaa
