/- Several texts in one: Sh17j, Ref18e, LawExact20. -/
import Derived.Test.YtildhebaikeknaaGreatPk49
import Derived.Test.YtildhebaikeknaaGreatPk24
import Derived.Test.YtildhebaikeknaaGreatPk37
import Derived.Test.YtildhebaikeknaaGreatPk34
import Derived.Test.YtildhebaikeknaaGreatPk35
/-! Sh17j -/
namespace Go.Proofs.YtildhebaikeknaaGreat
open Go.RowKit

theorem fin_range (s : Int) : 0 ≤ finalS s ∧ finalS s ≤ 126 := by
  unfold finalS
  repeat' split
  all_goals omega

set_option maxHeartbeats 4000000 in
theorem shEscape (HW : WideE) : ShEscOk := by
  intro g s w hg hs
  have HFN := hid (fun w => apiFinal s w)
  have HWD := hid (fun w => HW s w)
  obtain ⟨f0, f1⟩ := fin_range s
  clear HW hg hs
  by_cases g0 : g < 0
  · have HE := hid (show escE g s = 1 from by unfold escE; rw [if_neg (by omega)])
    have HL := hid (show escL g s = [] from by unfold escL; rw [HE.out]; rfl)
    clear f0 f1
    go_enter Tryz.func100, Tryz.ntmps100
    go_wp2
    go_ret2
    exact ⟨_, by rw [HE.out]; rfl, by rw [HL.out]; exact Own.nil .u8 5 _ _, Below.refl _ _⟩
  by_cases g3 : 3 < g
  · have HE := hid (show escE g s = 1 from by unfold escE; rw [if_neg (by omega)])
    have HL := hid (show escL g s = [] from by unfold escL; rw [HE.out]; rfl)
    clear f0 f1
    go_enter Tryz.func100, Tryz.ntmps100
    go_wp2
    go_ret2
    exact ⟨_, by rw [HE.out]; rfl, by rw [HL.out]; exact Own.nil .u8 5 _ _, Below.refl _ _⟩
  have hE : escE g s = if finalS s = 0 then 12 else 0 := by unfold escE; rw [if_pos (by omega)]
  by_cases hf : finalS s = 0
  · have HE := hid (show escE g s = 12 from by rw [hE, if_pos hf])
    have HL := hid (show escL g s = [] from by unfold escL; rw [HE.out]; rfl)
    rw [hf] at HFN
    clear f0 f1 hE hf
    go_enter Tryz.func100, Tryz.ntmps100
    go_wp2_with (go_at_call 91; refine (HFN.out _).mono ?_; rintro e w1 ⟨rfl, rfl⟩)
    go_ret2
    exact ⟨_, by rw [HE.out]; rfl, by rw [HL.out]; exact Own.nil .u8 5 _ _, Below.refl _ _⟩
  · have HE := hid (show escE g s = 0 from by rw [hE, if_neg hf])
    have HL := hid (show escL g s = escP g s from by unfold escL; rw [HE.out]; rfl)
    have e0 : (finalS s == 0) = false := by simpa using hf
    have h40 : IntKind.u8.wrap (40 + g) = 40 + g := by simp only [IntKind.wrap, IntKind.bits, IntKind.signed]; simp; omega
    have hfin : IntKind.u8.wrap (finalS s) = finalS s := by simp only [IntKind.wrap, IntKind.bits, IntKind.signed]; simp; omega
    have hP : escP g s = if (s == 87) = true then [27, 36, 40 + g, finalS s] else [27, 40 + g, finalS s] := by
      unfold escP
      by_cases h : s = 87
      · rw [if_pos h, if_pos (by simpa using h)]
      · rw [if_neg h, if_neg (by simpa using h)]
    have HP := hid hP
    clear hP hE hf
    generalize finalS s = fs at HFN HP e0 hfin f0 f1
    generalize (s == 87) = wd at HWD HP
    cases wd with
    | true =>
      have HO := hid (lit_own (k := .u8) (w := w) (base := w.heap.size) (e := 5) (xs := [27, 36, 40 + g, fs]) (n := w.heap.size) (len := 4) (cs := #[.int .u8 27, .int .u8 36, .int .u8 (40 + g), .int .u8 fs]) rfl (Nat.le_refl _) rfl rfl (by simp))
      go_enter Tryz.func100, Tryz.ntmps100
      go_wp2_with (first
        | (go_at_call 91; refine (HFN.out _).mono ?_; rintro e w1 ⟨rfl, rfl⟩)
        | (go_at_call 81; refine (HWD.out _).mono ?_; rintro e w2 ⟨rfl, rfl⟩))
      go_ret2
      exact ⟨_, by rw [HE.out]; rfl, by rw [HL.out, HP.out]; exact HO.out, by (repeat (first | exact Below.refl _ _ | exact below_drewN _ | refine Below.drew ?_ | refine Below.alloc ?_ (by simp) _ | refine Below.setCell ?_ (by simp) _ | refine below_drewN' ?_ _))⟩
    | false =>
      have HO := hid (lit_own (k := .u8) (w := w) (base := w.heap.size) (e := 5) (xs := [27, 40 + g, fs]) (n := w.heap.size) (len := 3) (cs := #[.int .u8 27, .int .u8 (40 + g), .int .u8 fs]) rfl (Nat.le_refl _) rfl rfl (by simp))
      go_enter Tryz.func100, Tryz.ntmps100
      go_wp2_with (first
        | (go_at_call 91; refine (HFN.out _).mono ?_; rintro e w1 ⟨rfl, rfl⟩)
        | (go_at_call 81; refine (HWD.out _).mono ?_; rintro e w2 ⟨rfl, rfl⟩))
      go_ret2
      exact ⟨_, by rw [HE.out]; rfl, by rw [HL.out, HP.out]; exact HO.out, by (repeat (first | exact Below.refl _ _ | exact below_drewN _ | refine Below.drew ?_ | refine Below.alloc ?_ (by simp) _ | refine Below.setCell ?_ (by simp) _ | refine below_drewN' ?_ _))⟩
end Go.Proofs.YtildhebaikeknaaGreat

/-! Ref18e -/
namespace Go.Proofs.YtildhebaikeknaaGreat
open Go.RowKit
set_option linter.unusedVariables false

theorem enc_err20 (k : Int) (s : List Int) : (encS k s).2.2 = (sput k s).2.2 := by
  unfold encS
  split
  · rename_i h; exact h.symm
  · rfl
theorem fit_enc20 (k : Int) (s : List Int) : fitB k s = (decide ((encS k s).2.2 = 0) && decide (0 < s.length)) := by
  unfold fitB
  rw [enc_err20]
  congr 1
  cases s <;> simp
set_option maxHeartbeats 2000000 in
theorem refFirst20 (S : Nat) (u v : Value) (l s : List Int) (w : World) (h : SetsAt S w) (hu : Sl .i64 w u l) (hs : Sl .i64 w v s) (hl : s.length ≤ 100000) : Calls Tryz.prog 10 #[.pointer (some ⟨S, 0, none⟩), u, v] w fun e w' =>
    e = .returned (.int .i64 (firstS s l)) ∧ Below w.heap.size w w' := by
  have HS := hid h
  have HV := hid hs
  have HF := hid (fun k w (h : SetsAt S w) hv => refFits20 S k v s w h hv hl)
  obtain ⟨a2, c2, rfl⟩ := hs.form
  obtain ⟨m, hm⟩ : ∃ m, m = s.length := ⟨_, rfl⟩
  rw [← hm] at HV HF ⊢
  obtain ⟨a1, cap1, rfl, q1, q2, h1⟩ := hu
  obtain ⟨n, hn⟩ : ∃ n, n = l.length := ⟨_, rfl⟩
  have HN := hid hn
  have HC1 := hid h1
  rw [← hn] at q1 ⊢
  have hnm : n ≤ 9223372036854775807 := by unfold maxLen at q2; omega
  obtain ⟨r, hr⟩ : ∃ r, r = firstS s l := ⟨_, rfl⟩
  have HR := hid hr
  rw [← hr]
  clear h1 hn h hs hm hr hl q2
  go_enter Tryz.func10, Tryz.ntmps10
  go_wp2
  go_loopw [6, 7] (fun rv iv wr => ∃ (j : Nat), j ≤ n ∧ rv = .int .i64 0 ∧ iv = .int .i64 (j : Int) ∧ Hid (Below w.heap.size w wr) ∧ Hid (r = firstS s (l.drop j))) (fun _ iv _ => n - (intOf iv).toNat)
  case atStart => exact ⟨0, Nat.zero_le _, rfl, rfl, Below.refl _ _, HR.out⟩
  case round =>
    obtain ⟨j, hj, rfl, rfl, hbel, hrest⟩ := hrel
    by_cases hlt : j < n
    · rcases HC1.out with hcc | ⟨b1, o1, rfl, hb1, hc⟩
      · omega
      have hb1' := hb1 (by have := HN.out; omega)
      have HLT := hid hb1'
      have d0 := hc j (by have := HN.out; omega)
      have D0 := hid d0
      have d1 := (hbel.out.cell (p := ⟨b1, o1 + j, none⟩) hb1').trans d0
      have hdr : l.drop j = l.getD j 0 :: l.drop (j + 1) := drop_getD rfl (by have := HN.out; omega)
      rw [hdr, firstS] at hrest
      clear hc hb1 hb1' hdr d0
      generalize l.getD j 0 = k at d1 D0 hrest
      have HFK := hid (fun w h hv => HF.out k w h hv)
      have HSr := hid (HS.out.below hbel.out)
      have HVr := hid (HV.out.below hbel.out)
      generalize fitB k s = f at HFK hrest
      cases f with
      | true =>
        have HK := hid (hrest.out.trans (if_pos rfl))
        clear hrest
        go_wp2_with (go_at_call 8; refine (HFK.out _ HSr.out HVr.out).mono ?_; rintro e w2 ⟨rfl, hb2⟩; have HB2 := hid (hbel.out.trans (hb2.mono hbel.out.size)); have d2 := (HB2.out.cell (p := ⟨b1, o1 + j, none⟩) HLT.out).trans D0.out; clear hb2)
        go_ret
        exact ⟨by rw [HK.out]; rfl, HB2.out⟩
      | false =>
        have HK := hid (hrest.out.trans (if_neg (by simp)))
        clear hrest
        go_wp2_with (go_at_call 8; refine (HFK.out _ HSr.out HVr.out).mono ?_; rintro e w2 ⟨rfl, hb2⟩; have HB2 := hid (hbel.out.trans (hb2.mono hbel.out.size)); clear hb2)
        go_roundw
        case rel => exact ⟨j + 1, by omega, rfl, by go_num, HB2.out, HK.out⟩
        case measure => simp [intOf]; omega
    · obtain rfl : j = n := by omega
      have HB := hid (show r = 0 from by rw [hrest.out, HN.out, List.drop_length]; rfl)
      go_wp2
      go_ret
      exact ⟨by rw [HB.out]; rfl, hbel.out⟩
set_option maxHeartbeats 4000000 in
theorem refLeast20 (S : Nat) (u v : Value) (l s : List Int) (w : World) (h : SetsAt S w) (hu : Sl .i64 w u l) (hs : Sl .i64 w v s) (hl : s.length ≤ 100000) : Calls Tryz.prog 11 #[.pointer (some ⟨S, 0, none⟩), u, v] w fun e w' =>
    e = .returned (.int .i64 (leastS s l)) ∧ Below w.heap.size w w' := by
  have HS := hid h
  have HV := hid hs
  have HF := hid (fun k w (h : SetsAt S w) hv => refEncode20 S k v s w h hv hl)
  obtain ⟨a2, c2, rfl⟩ := hs.form
  obtain ⟨m, hm⟩ : ∃ m, m = s.length := ⟨_, rfl⟩
  have HM := hid hm
  have hms : m ≤ 100000 := by omega
  rw [← hm] at HV HF ⊢
  obtain ⟨a1, cap1, rfl, q1, q2, h1⟩ := hu
  obtain ⟨n, hn⟩ : ∃ n, n = l.length := ⟨_, rfl⟩
  have HN := hid hn
  have HC1 := hid h1
  rw [← hn] at q1 ⊢
  have hnm : n ≤ 9223372036854775807 := by unfold maxLen at q2; omega
  obtain ⟨r, hr⟩ : ∃ r, r = leastS s l := ⟨_, rfl⟩
  have HR := hid (show r = (leastF s 0 0 l).1 from hr)
  rw [← hr]
  clear h1 hn h hs hm hr hl q2
  go_enter Tryz.func11, Tryz.ntmps11
  go_wp2
  go_loopw [7, 8, 9] (fun bv nv iv wr => ∃ (j : Nat) (b nb : Int), j ≤ n ∧ bv = .int .i64 b ∧ nv = .int .i64 nb ∧ iv = .int .i64 (j : Int) ∧ Hid (Below w.heap.size w wr) ∧ Hid (r = (leastF s b nb (l.drop j)).1)) (fun _ _ iv _ => n - (intOf iv).toNat)
  case atStart => exact ⟨0, 0, 0, Nat.zero_le _, rfl, rfl, rfl, Below.refl _ _, HR.out⟩
  case round =>
    obtain ⟨j, b, nb, hj, rfl, rfl, rfl, hbel, hrest⟩ := hrel
    by_cases hlt : j < n
    · rcases HC1.out with hcc | ⟨b1, o1, rfl, hb1, hc⟩
      · omega
      have hb1' := hb1 (by have := HN.out; omega)
      have HLT := hid hb1'
      have d0 := hc j (by have := HN.out; omega)
      have D0 := hid d0
      have d1 := (hbel.out.cell (p := ⟨b1, o1 + j, none⟩) hb1').trans d0
      have hdr : l.drop j = l.getD j 0 :: l.drop (j + 1) := drop_getD rfl (by have := HN.out; omega)
      rw [hdr, leastF] at hrest
      clear hc hb1 hb1' hdr d0
      generalize l.getD j 0 = k at d1 D0 hrest
      have HEK := hid (fun w h hv => HF.out k w h hv)
      have HSr := hid (HS.out.below hbel.out)
      have HVr := hid (HV.out.below hbel.out)
      have hfe := fit_enc20 k s
      rw [← HM.out] at hfe
      rw [hfe] at hrest
      clear hfe
      generalize (encS k s).1 = eb at HEK hrest
      generalize (encS k s).2.1 = ea at HEK
      generalize (encS k s).2.2 = ee at HEK hrest
      obtain ⟨mm, hmm⟩ : ∃ mm, mm = eb.length := ⟨_, rfl⟩
      have HML := hid hmm
      rw [← hmm] at hrest
      clear hmm
      by_cases he : ee = 0
      · subst he
        by_cases h0 : 0 < m
        · have g0 : decide ((0 : Int) < (m : Int)) = true := by simp; exact h0
          by_cases hb0 : b = 0
          · have HK := hid (hrest.out.trans (congrArg Prod.fst (if_pos ⟨by simp; exact h0, .inl hb0⟩)))
            subst hb0
            clear hrest g0
            have g0 : (0 : Int) < (m : Int) := by omega
            go_wp2_with (go_at_call 20; refine (HEK.out _ HSr.out HVr.out).mono ?_; rintro e w2 ⟨v2, rfl, ho2, hb2⟩; obtain ⟨a5, c5, hv5⟩ := ho2.sl.form; rw [← HML.out] at hv5; subst hv5; have HB2 := hid (hbel.out.trans (hb2.mono hbel.out.size)); have d2 := (HB2.out.cell (p := ⟨b1, o1 + j, none⟩) HLT.out).trans D0.out; clear hb2 ho2)
            go_roundw
            case rel => exact ⟨j + 1, k, (mm : Int), by omega, rfl, rfl, by go_num, HB2.out, HK.out⟩
            case measure => simp [intOf]; omega
          · have eb0 : (b == 0) = false := by simpa using hb0
            by_cases hlt2 : (mm : Int) < nb
            · have HK := hid (hrest.out.trans (congrArg Prod.fst (if_pos ⟨by simp; exact h0, .inr hlt2⟩)))
              clear hrest g0 hb0
              have g0 : (0 : Int) < (m : Int) := by omega
              go_wp2_with (go_at_call 20; refine (HEK.out _ HSr.out HVr.out).mono ?_; rintro e w2 ⟨v2, rfl, ho2, hb2⟩; obtain ⟨a5, c5, hv5⟩ := ho2.sl.form; rw [← HML.out] at hv5; subst hv5; have HB2 := hid (hbel.out.trans (hb2.mono hbel.out.size)); have d2 := (HB2.out.cell (p := ⟨b1, o1 + j, none⟩) HLT.out).trans D0.out; clear hb2 ho2)
              go_roundw
              case rel => exact ⟨j + 1, k, (mm : Int), by omega, rfl, rfl, by go_num, HB2.out, HK.out⟩
              case measure => simp [intOf]; omega
            · have HK := hid (hrest.out.trans (congrArg Prod.fst (if_neg (fun h => h.2.elim hb0 hlt2))))
              clear hrest g0 hb0
              have g0 : (0 : Int) < (m : Int) := by omega
              go_wp2_with (go_at_call 20; refine (HEK.out _ HSr.out HVr.out).mono ?_; rintro e w2 ⟨v2, rfl, ho2, hb2⟩; obtain ⟨a5, c5, hv5⟩ := ho2.sl.form; rw [← HML.out] at hv5; subst hv5; have HB2 := hid (hbel.out.trans (hb2.mono hbel.out.size)); have d2 := (HB2.out.cell (p := ⟨b1, o1 + j, none⟩) HLT.out).trans D0.out; clear hb2 ho2)
              go_roundw
              case rel => exact ⟨j + 1, b, nb, by omega, rfl, rfl, by go_num, HB2.out, HK.out⟩
              case measure => simp [intOf]; omega
        · have HK := hid (hrest.out.trans (congrArg Prod.fst (if_neg (fun h => by have := h.1; simp at this; exact h0 this))))
          obtain rfl : m = 0 := by omega
          clear hrest h0
          go_wp2_with (go_at_call 20; refine (HEK.out _ HSr.out HVr.out).mono ?_; rintro e w2 ⟨v2, rfl, ho2, hb2⟩; obtain ⟨a5, c5, hv5⟩ := ho2.sl.form; rw [← HML.out] at hv5; subst hv5; have HB2 := hid (hbel.out.trans (hb2.mono hbel.out.size)); have d2 := (HB2.out.cell (p := ⟨b1, o1 + j, none⟩) HLT.out).trans D0.out; clear hb2 ho2)
          go_roundw
          case rel => exact ⟨j + 1, b, nb, by omega, rfl, rfl, by go_num, HB2.out, HK.out⟩
          case measure => simp [intOf]; omega
      · have e1 : (ee == 0) = false := by simpa using he
        have HK := hid (hrest.out.trans (congrArg Prod.fst (if_neg (fun h => by have := h.1; simp at this; exact he this.1))))
        clear hrest he
        go_wp2_with (go_at_call 20; refine (HEK.out _ HSr.out HVr.out).mono ?_; rintro e w2 ⟨v2, rfl, ho2, hb2⟩; obtain ⟨a5, c5, hv5⟩ := ho2.sl.form; rw [← HML.out] at hv5; subst hv5; have HB2 := hid (hbel.out.trans (hb2.mono hbel.out.size)); have d2 := (HB2.out.cell (p := ⟨b1, o1 + j, none⟩) HLT.out).trans D0.out; clear hb2 ho2)
        go_roundw
        case rel => exact ⟨j + 1, b, nb, by omega, rfl, rfl, by go_num, HB2.out, HK.out⟩
        case measure => simp [intOf]; omega
    · obtain rfl : j = n := by omega
      have HB := hid (show r = b from by rw [hrest.out, HN.out, List.drop_length]; rfl)
      go_wp2
      go_ret
      exact ⟨by rw [HB.out]; rfl, hbel.out⟩
end Go.Proofs.YtildhebaikeknaaGreat

/-! LawExact20 -/
namespace Go.Proofs.YtildhebaikeknaaGreat
open Go.RowKit
set_option linter.unusedVariables false

set_option maxHeartbeats 4000000 in
set_option maxRecDepth 100000 in
theorem walkExact20 (HF : CFitsOk) (H1 : CFirstOk) (H2 : CLeastOk) (k : Int) (u v : Value) (l s : List Int) (w : World) (hk : inI k = true) (hu : Sl .i64 w u l) (hv : Sl .i64 w v s) (hil : l.all inI = true) (his : s.all inI = true) :
    Calls Tryz.prog 3 #[.int .i64 k, u, v] w fun e w' => e = .returned (.bool true) ∧ Below w.heap.size w w' := by
  have HW := hid (fun w => lawWakes20 HF H1 H2 w)
  have HU := hid hu
  have HV := hid hv
  have mlu := hu.len
  have mlv := hv.len
  have HAL := hid (fun w => refAllSets w)
  obtain ⟨a1, c1, hu'⟩ := hu.form
  obtain ⟨a2, c2, hv'⟩ := hv.form
  obtain ⟨n, hn⟩ : ∃ n, n = l.length := ⟨_, rfl⟩
  obtain ⟨m, hm⟩ : ∃ m, m = s.length := ⟨_, rfl⟩
  rw [← hn] at hu' mlu
  rw [← hm] at hv' mlv
  subst hu' hv'
  by_cases hm2 : 200 < m
  · clear hn hm HF H1 H2 hil his hk hu hv
    go_enter Tryz.func3, Tryz.ntmps3
    go_wp2_with (fail)
    go_ret
    exact ⟨rfl, Below.refl _ _⟩
  by_cases hn2 : 20 < n
  · have im : ¬ (200 : Int) < (m : Int) := by omega
    clear hn hm HF H1 H2 hil his hk hu hv
    go_enter Tryz.func3, Tryz.ntmps3
    go_wp2_with (fail)
    go_ret
    exact ⟨rfl, Below.refl _ _⟩
  have im : ¬ (200 : Int) < (m : Int) := by omega
  have iN : ¬ (20 : Int) < (n : Int) := by omega
  have G1 := hid (fun w hu hv => H1 (.slice a1 n c1) (.slice a2 m c2) l s w hu hv hil his (by omega) (by omega))
  have G2 := hid (fun w hu hv => H2 (.slice a1 n c1) (.slice a2 m c2) l s w hu hv hil his (by omega) (by omega))
  have G3 := hid (fun w hv => HF k (.slice a2 m c2) s w hk hv his (by omega))
  have R1 := hid (fun S w (h : SetsAt S w) hu hv => refFirst20 S (.slice a1 n c1) (.slice a2 m c2) l s w h hu hv (by omega))
  have R2 := hid (fun S w (h : SetsAt S w) hu hv => refLeast20 S (.slice a1 n c1) (.slice a2 m c2) l s w h hu hv (by omega))
  have R3 := hid (fun S w (h : SetsAt S w) hv => refFits20 S k (.slice a2 m c2) s w h hv (by omega))
  have hz := least_zero (s := s) (l := l)
  by_cases h0 : m = 0
  · have hs0 : s = [] := List.eq_nil_of_length_eq_zero (by omega)
    unfold firstR at G1
    unfold leastR at G2
    rw [if_pos hs0] at G1 G2
    generalize fitB k s = f at G3 R3
    have hff : (f != f) = false := by cases f <;> rfl
    subst h0
    clear hn hm HF H1 H2 hil his hk hu hv hz hs0 R1 R2
    · go_enter Tryz.func3, Tryz.ntmps3
      go_wp2_with (first
        | (have _u := HB6; clear _u; go_at_call 11; go_loud (refine (R2.out S _ HS6.out HU6.out HV6.out).mono ?_; rintro e w7 ⟨rfl, hb⟩; have HB7 := hid (HB6.out.trans (hb.mono HB6.out.size)); have HS7 := hid (HS6.out.below hb); have HU7 := hid (HU6.out.below hb); have HV7 := hid (HV6.out.below hb); clear hb))
        | (have _u := HB5; clear _u; go_at_call 10; go_loud (refine (R1.out S _ HS5.out HU5.out HV5.out).mono ?_; rintro e w6 ⟨rfl, hb⟩; have HB6 := hid (HB5.out.trans (hb.mono HB5.out.size)); have HS6 := hid (HS5.out.below hb); have HU6 := hid (HU5.out.below hb); have HV6 := hid (HV5.out.below hb); clear hb))
        | (have _u := HB4; clear _u; go_at_call 8; go_loud (refine (R3.out S _ HS4.out HV4.out).mono ?_; rintro e w5 ⟨rfl, hb⟩; have HB5 := hid (HB4.out.trans (hb.mono HB4.out.size)); have HS5 := hid (HS4.out.below hb); have HU5 := hid (HU4.out.below hb); have HV5 := hid (HV4.out.below hb); clear hb))
        | (have _u := HB3; clear _u; go_at_call 7; go_loud (refine (G3.out _ HV3.out).mono ?_; rintro e w4 ⟨rfl, hb⟩; have HB4 := hid (HB3.out.trans (hb.mono HB3.out.size)); have HS4 := hid (HS3.out.below hb); have HU4 := hid (HU3.out.below hb); have HV4 := hid (HV3.out.below hb); clear hb))
        | (have _u := HB2; clear _u; go_at_call 6; go_loud (refine (G2.out _ HU2.out HV2.out).mono ?_; rintro e w3 ⟨rfl, hb⟩; have HB3 := hid (HB2.out.trans (hb.mono HB2.out.size)); have HS3 := hid (HS2.out.below hb); have HU3 := hid (HU2.out.below hb); have HV3 := hid (HV2.out.below hb); clear hb))
        | (have _u := HB1; clear _u; go_at_call 5; go_loud (refine (G1.out _ HU1.out HV1.out).mono ?_; rintro e w2 ⟨rfl, hb⟩; have HB2 := hid (HB1.out.trans (hb.mono HB1.out.size)); have HS2 := hid (HS1.out.below hb); have HU2 := hid (HU1.out.below hb); have HV2 := hid (HV1.out.below hb); clear hb))
        | (go_at_call 9; go_loud (refine (HW.out _).mono ?_; rintro e w8 ⟨rfl, hb⟩; first | (have HB8 := hid (HB7.out.trans (hb.mono HB7.out.size))) | (have HB8 := hid (HB5.out.trans (hb.mono HB5.out.size))); clear hb))
        | (go_at_call 4; go_loud (refine (HAL.out _).mono ?_; rintro e w1 ⟨S, rfl, hs1, hb⟩; have HB1 := hid hb; have HS1 := hid hs1; have HU1 := hid (HU.out.below hb); have HV1 := hid (HV.out.below hb); clear hb hs1)))
      go_ret
      exact ⟨rfl, HB8.out⟩
  · have hs0 : ¬ s = [] := fun e => h0 (by rw [hm, e]; rfl)
    have em : ((m : Int) == 0) = false := by simp; omega
    unfold firstR at G1
    unfold leastR at G2
    rw [if_neg hs0] at G1 G2
    generalize fitB k s = f at G3 R3
    have hff : (f != f) = false := by cases f <;> rfl
    by_cases hc : firstS s l = 0
    · have hd := hz.2 hc
      rw [if_pos hc] at G1
      rw [if_pos hd] at G2
      rw [hc] at R1
      rw [hd] at R2
      clear hn hm HF H1 H2 hil his hk hu hv hz hs0 hc hd h0
      go_enter Tryz.func3, Tryz.ntmps3
      go_wp2_with (first
        | (have _u := HB6; clear _u; go_at_call 11; go_loud (refine (R2.out S _ HS6.out HU6.out HV6.out).mono ?_; rintro e w7 ⟨rfl, hb⟩; have HB7 := hid (HB6.out.trans (hb.mono HB6.out.size)); have HS7 := hid (HS6.out.below hb); have HU7 := hid (HU6.out.below hb); have HV7 := hid (HV6.out.below hb); clear hb))
        | (have _u := HB5; clear _u; go_at_call 10; go_loud (refine (R1.out S _ HS5.out HU5.out HV5.out).mono ?_; rintro e w6 ⟨rfl, hb⟩; have HB6 := hid (HB5.out.trans (hb.mono HB5.out.size)); have HS6 := hid (HS5.out.below hb); have HU6 := hid (HU5.out.below hb); have HV6 := hid (HV5.out.below hb); clear hb))
        | (have _u := HB4; clear _u; go_at_call 8; go_loud (refine (R3.out S _ HS4.out HV4.out).mono ?_; rintro e w5 ⟨rfl, hb⟩; have HB5 := hid (HB4.out.trans (hb.mono HB4.out.size)); have HS5 := hid (HS4.out.below hb); have HU5 := hid (HU4.out.below hb); have HV5 := hid (HV4.out.below hb); clear hb))
        | (have _u := HB3; clear _u; go_at_call 7; go_loud (refine (G3.out _ HV3.out).mono ?_; rintro e w4 ⟨rfl, hb⟩; have HB4 := hid (HB3.out.trans (hb.mono HB3.out.size)); have HS4 := hid (HS3.out.below hb); have HU4 := hid (HU3.out.below hb); have HV4 := hid (HV3.out.below hb); clear hb))
        | (have _u := HB2; clear _u; go_at_call 6; go_loud (refine (G2.out _ HU2.out HV2.out).mono ?_; rintro e w3 ⟨rfl, hb⟩; have HB3 := hid (HB2.out.trans (hb.mono HB2.out.size)); have HS3 := hid (HS2.out.below hb); have HU3 := hid (HU2.out.below hb); have HV3 := hid (HV2.out.below hb); clear hb))
        | (have _u := HB1; clear _u; go_at_call 5; go_loud (refine (G1.out _ HU1.out HV1.out).mono ?_; rintro e w2 ⟨rfl, hb⟩; have HB2 := hid (HB1.out.trans (hb.mono HB1.out.size)); have HS2 := hid (HS1.out.below hb); have HU2 := hid (HU1.out.below hb); have HV2 := hid (HV1.out.below hb); clear hb))
        | (go_at_call 9; go_loud (refine (HW.out _).mono ?_; rintro e w8 ⟨rfl, hb⟩; first | (have HB8 := hid (HB7.out.trans (hb.mono HB7.out.size))) | (have HB8 := hid (HB5.out.trans (hb.mono HB5.out.size))); clear hb))
        | (go_at_call 4; go_loud (refine (HAL.out _).mono ?_; rintro e w1 ⟨S, rfl, hs1, hb⟩; have HB1 := hid hb; have HS1 := hid hs1; have HU1 := hid (HU.out.below hb); have HV1 := hid (HV.out.below hb); clear hb hs1)))
      go_ret
      exact ⟨rfl, HB8.out⟩
    · have hd : ¬ leastS s l = 0 := fun e => hc (hz.1 e)
      rw [if_neg hc] at G1
      rw [if_neg hd] at G2
      have ec : (firstS s l == 0) = false := by simpa using hc
      generalize firstS s l = c at G1 R1 ec
      generalize leastS s l = d at G2 R2
      clear hn hm HF H1 H2 hil his hk hu hv hz hs0 hc hd h0
      go_enter Tryz.func3, Tryz.ntmps3
      go_wp2_with (first
        | (have _u := HB6; clear _u; go_at_call 11; go_loud (refine (R2.out S _ HS6.out HU6.out HV6.out).mono ?_; rintro e w7 ⟨rfl, hb⟩; have HB7 := hid (HB6.out.trans (hb.mono HB6.out.size)); have HS7 := hid (HS6.out.below hb); have HU7 := hid (HU6.out.below hb); have HV7 := hid (HV6.out.below hb); clear hb))
        | (have _u := HB5; clear _u; go_at_call 10; go_loud (refine (R1.out S _ HS5.out HU5.out HV5.out).mono ?_; rintro e w6 ⟨rfl, hb⟩; have HB6 := hid (HB5.out.trans (hb.mono HB5.out.size)); have HS6 := hid (HS5.out.below hb); have HU6 := hid (HU5.out.below hb); have HV6 := hid (HV5.out.below hb); clear hb))
        | (have _u := HB4; clear _u; go_at_call 8; go_loud (refine (R3.out S _ HS4.out HV4.out).mono ?_; rintro e w5 ⟨rfl, hb⟩; have HB5 := hid (HB4.out.trans (hb.mono HB4.out.size)); have HS5 := hid (HS4.out.below hb); have HU5 := hid (HU4.out.below hb); have HV5 := hid (HV4.out.below hb); clear hb))
        | (have _u := HB3; clear _u; go_at_call 7; go_loud (refine (G3.out _ HV3.out).mono ?_; rintro e w4 ⟨rfl, hb⟩; have HB4 := hid (HB3.out.trans (hb.mono HB3.out.size)); have HS4 := hid (HS3.out.below hb); have HU4 := hid (HU3.out.below hb); have HV4 := hid (HV3.out.below hb); clear hb))
        | (have _u := HB2; clear _u; go_at_call 6; go_loud (refine (G2.out _ HU2.out HV2.out).mono ?_; rintro e w3 ⟨rfl, hb⟩; have HB3 := hid (HB2.out.trans (hb.mono HB2.out.size)); have HS3 := hid (HS2.out.below hb); have HU3 := hid (HU2.out.below hb); have HV3 := hid (HV2.out.below hb); clear hb))
        | (have _u := HB1; clear _u; go_at_call 5; go_loud (refine (G1.out _ HU1.out HV1.out).mono ?_; rintro e w2 ⟨rfl, hb⟩; have HB2 := hid (HB1.out.trans (hb.mono HB1.out.size)); have HS2 := hid (HS1.out.below hb); have HU2 := hid (HU1.out.below hb); have HV2 := hid (HV1.out.below hb); clear hb))
        | (go_at_call 9; go_loud (refine (HW.out _).mono ?_; rintro e w8 ⟨rfl, hb⟩; first | (have HB8 := hid (HB7.out.trans (hb.mono HB7.out.size))) | (have HB8 := hid (HB5.out.trans (hb.mono HB5.out.size))); clear hb))
        | (go_at_call 4; go_loud (refine (HAL.out _).mono ?_; rintro e w1 ⟨S, rfl, hs1, hb⟩; have HB1 := hid hb; have HS1 := hid hs1; have HU1 := hid (HU.out.below hb); have HV1 := hid (HV.out.below hb); clear hb hs1)))
      go_ret
      exact ⟨rfl, HB8.out⟩
end Go.Proofs.YtildhebaikeknaaGreat
