/- Several texts in one: LawFits20, LawFirst20. -/
import Derived.Test.YtildhebaikeknaaPk19
/-! LawFits20 -/
namespace Go.Proofs.Ytildhebaikeknaa
open Go.RowKit

theorem enc_err (k : Int) (s : List Int) : (encS k s).2.2 = (sput k s).2.2 := by
  unfold encS
  split
  · rename_i h; exact h.symm
  · rfl
theorem fit_enc (k : Int) (s : List Int) : fitB k s = (decide ((encS k s).2.2 = 0) && decide (0 < s.length)) := by
  unfold fitB
  rw [enc_err]
  congr 1
  cases s <;> simp
theorem fit_facts (s : List Int) : (fitB 19 s = true → fitB 22 s = true ∧ fitB 26 s = true ∧ fitB 12 s = true) ∧ (fitB 18 s = true → fitB 19 s = true) ∧ (fitB 30 s = true → fitB 12 s = true) ∧ fitB 28 s = fitB 12 s := by
  refine ⟨fun h => ⟨fit_mono rfl (fun c hc => (has_visible hc).1) h, fit_mono rfl (fun c hc => (has_visible hc).2.1) h, fit_mono rfl (fun c hc => (has_visible hc).2.2) h⟩, fit_mono rfl (fun c hc => has_printable hc), fit_mono rfl (fun c hc => has_bmp hc), ?_⟩
  rw [fit_iff, fit_iff, show hasK 28 = hasK 12 from funext fun c => (has_universal c).symm]
  rfl

set_option maxRecDepth 10000 in
set_option maxHeartbeats 4000000 in
theorem walkFits20 (HE : SEncOk) (HF : CFitsOk) (H1 : CFirstOk) (H2 : CLeastOk) (k : Int) (v : Value) (s : List Int) (w : World) (hk : inI k = true) (h : Sl .i64 w v s) (hi : s.all inI = true) :
    Calls Try.prog 4 #[.int .i64 k, v] w fun e w' => e = .returned (.bool true) ∧ Below w.heap.size w w' := by
  have HW := hid (fun w => lawWakes20 HF H1 H2 w)
  have HS := hid h
  have ml := h.len
  obtain ⟨a0, c0, hv⟩ := h.form
  obtain ⟨N, hn⟩ : ∃ n, n = s.length := ⟨_, rfl⟩
  rw [← hn] at hv ml
  subst hv
  by_cases hl : N ≤ 200
  · have F := fun (q : Int) (hq : inI q = true) => hid (fun u w h => HF q u s w hq h hi (by omega))
    have Fk := F k hk
    have F19 := F 19 (by decide)
    have F22 := F 22 (by decide)
    have F26 := F 26 (by decide)
    have F12 := F 12 (by decide)
    have F18 := F 18 (by decide)
    have F30 := F 30 (by decide)
    have F28 := F 28 (by decide)
    have E := hid (fun u w h => HE k u s w hk h hi (by omega))
    have hfe := fit_enc k s
    obtain ⟨f1, f2, f3, f4⟩ := fit_facts s
    rw [f4] at F28
    rw [hfe, ← hn] at Fk
    generalize (encS k s).1 = eb at E
    generalize (encS k s).2.1 = ea at E
    generalize (encS k s).2.2 = ee at E Fk
    obtain ⟨z, hz⟩ : ∃ z, z = decide (ee = 0) := ⟨_, rfl⟩
    obtain ⟨y, hy⟩ : ∃ z, z = decide (0 < N) := ⟨_, rfl⟩
    have r1 : (ee == 0) = z := by rw [hz]; rfl
    have r2 : decide (0 < (N : Int)) = y := by rw [hy]; simp
    have r3 : decide (0 < N) = y := hy.symm
    rw [← hz, ← hy] at Fk
    clear F hfe f4 HE HF H1 H2 hi hk hz hy
    have HI := hid (And.intro f1 (And.intro f2 f3))
    clear f1 f2 f3 hn
    generalize fitB 19 s = b19 at F19 HI
    generalize fitB 22 s = b22 at F22 HI
    generalize fitB 26 s = b26 at F26 HI
    generalize fitB 12 s = b12 at F12 F28 HI
    generalize fitB 18 s = b18 at F18 HI
    generalize fitB 30 s = b30 at F30 HI
    have HB := hid (Below.refl w.heap.size w)
    go_enter Try.func4, Try.ntmps4
    go_upto_region 6 with (first
      | (go_at_call 9; refine (E.out _ _ HS.out).mono ?_; rintro e w1 ⟨x1, rfl, -, hb⟩; replace HS := hid (HS.out.below hb); replace HB := hid (HB.out.trans (hb.mono HB.out.size)); clear hb)
      | (go_at_call 7; with_reducible refine (Fk.out _ _ HS.out).mono ?_; rintro e w2 ⟨rfl, hb⟩; replace HS := hid (HS.out.below hb); replace HB := hid (HB.out.trans (hb.mono HB.out.size)); clear hb))
    all_goals go_wp2_with (first
      | (go_at_call 7; with_reducible refine (F19.out _ _ HS.out).mono ?_; rintro e w2 ⟨rfl, hb⟩; replace HS := hid (HS.out.below hb); replace HB := hid (HB.out.trans (hb.mono HB.out.size)); clear hb)
      | (go_at_call 7; with_reducible refine (F22.out _ _ HS.out).mono ?_; rintro e w2 ⟨rfl, hb⟩; replace HS := hid (HS.out.below hb); replace HB := hid (HB.out.trans (hb.mono HB.out.size)); clear hb)
      | (go_at_call 7; with_reducible refine (F26.out _ _ HS.out).mono ?_; rintro e w2 ⟨rfl, hb⟩; replace HS := hid (HS.out.below hb); replace HB := hid (HB.out.trans (hb.mono HB.out.size)); clear hb)
      | (go_at_call 7; with_reducible refine (F12.out _ _ HS.out).mono ?_; rintro e w2 ⟨rfl, hb⟩; replace HS := hid (HS.out.below hb); replace HB := hid (HB.out.trans (hb.mono HB.out.size)); clear hb)
      | (go_at_call 7; with_reducible refine (F18.out _ _ HS.out).mono ?_; rintro e w2 ⟨rfl, hb⟩; replace HS := hid (HS.out.below hb); replace HB := hid (HB.out.trans (hb.mono HB.out.size)); clear hb)
      | (go_at_call 7; with_reducible refine (F30.out _ _ HS.out).mono ?_; rintro e w2 ⟨rfl, hb⟩; replace HS := hid (HS.out.below hb); replace HB := hid (HB.out.trans (hb.mono HB.out.size)); clear hb)
      | (go_at_call 7; with_reducible refine (F28.out _ _ HS.out).mono ?_; rintro e w2 ⟨rfl, hb⟩; replace HS := hid (HS.out.below hb); replace HB := hid (HB.out.trans (hb.mono HB.out.size)); clear hb)
      | (go_at_call 8; refine (HW.out _).mono ?_; rintro e w3 ⟨rfl, hb⟩; replace HB := hid (HB.out.trans (hb.mono HB.out.size)); clear hb))
    all_goals first
      | (go_ret; exact ⟨rfl, HB.out⟩)
      | (exfalso; have hi := HI.out; simp_all; done)
  · have hf : 200 < N := by omega
    clear hl HE HF H1 H2
    go_enter Try.func4, Try.ntmps4
    go_wp2
    go_ret
    exact ⟨rfl, Below.refl _ _⟩
end Go.Proofs.Ytildhebaikeknaa

/-! LawFirst20 -/
namespace Go.Proofs.Ytildhebaikeknaa
open Go.RowKit

theorem first_none2 {s l : List Int} (h : (firstR s l).2 ≠ 0) : (leastR s l).2 ≠ 0 ∧ ∀ k ∈ l, fitB k s = false := by
  unfold firstR at h
  unfold leastR
  by_cases hs : s = []
  · rw [if_pos hs]
    refine ⟨by decide, fun k _ => ?_⟩
    rw [fit_iff, hs]
    simp
  · rw [if_neg hs] at h ⊢
    by_cases hf : firstS s l = 0
    · rw [if_pos (least_zero.2 hf)]
      exact ⟨by decide, first_none.1 hf⟩
    · rw [if_neg hf] at h
      exact absurd rfl h
theorem first_ok2 {s l : List Int} (h : (firstR s l).2 = 0) : (leastR s l).2 = 0 ∧ fitB (firstR s l).1 s = true ∧ (∃ j, j < l.length ∧ l.getD j 0 = (firstR s l).1 ∧ ∀ i, i < j → fitB (l.getD i 0) s = false) ∧ fitB (leastR s l).1 s = true ∧ ∀ k ∈ l, fitB k s = true → (encS (leastR s l).1 s).1.length ≤ (encS k s).1.length := by
  unfold firstR at h ⊢
  unfold leastR
  by_cases hs : s = []
  · rw [if_pos hs] at h; cases h
  · simp only [if_neg hs] at h ⊢
    by_cases hf : firstS s l = 0
    · rw [if_pos hf] at h; cases h
    · have hl : leastS s l ≠ 0 := fun e => hf (least_zero.1 e)
      simp only [if_neg hf, if_neg hl]
      obtain ⟨j, h1, h2, h3, h4⟩ := first_some hf
      exact ⟨trivial, h3, ⟨j, h1, h2, h4⟩, least_best hl⟩
theorem enc_of_fit {k : Int} {s : List Int} (h : fitB k s = true) : (encS k s).2.2 = 0 := by
  rw [fit_enc, Bool.and_eq_true] at h
  exact of_decide_eq_true h.1
theorem fit_inI {k : Int} {s : List Int} (h : fitB k s = true) : inI k = true := by
  rw [fit_iff, Bool.and_eq_true] at h
  have h1 := h.1
  unfold isK narK at h1
  rw [Bool.or_eq_true, decide_eq_true_iff, decide_eq_true_iff] at h1
  unfold inI
  rw [decide_eq_true_iff]
  omega
theorem getD_mem20 {l : List Int} {j : Nat} (h : j < l.length) : l.getD j 0 ∈ l := by
  rw [List.getD_eq_getElem?_getD, List.getElem?_eq_getElem h]
  exact List.getElem_mem h

set_option maxRecDepth 10000 in
set_option maxHeartbeats 8000000 in
theorem walkFirst20 (HE : SEncOk) (HF : CFitsOk) (H1 : CFirstOk) (H2 : CLeastOk) (u v : Value) (l s : List Int) (w : World) (hu : Sl .i64 w u l) (h : Sl .i64 w v s) (hli : l.all inI = true) (hi : s.all inI = true) :
    Calls Try.prog 3 #[u, v] w fun e w' => e = .returned (.bool true) ∧ Below w.heap.size w w' := by
  have HW := hid (fun w => lawWakes20 HF H1 H2 w)
  have HS := hid h
  have HL := hid hu
  have ml := h.len
  have ml2 := hu.len
  obtain ⟨a0, c0, hv⟩ := h.form
  obtain ⟨N, hn⟩ : ∃ n, n = s.length := ⟨_, rfl⟩
  rw [← hn] at hv ml
  subst hv
  obtain ⟨a1, c1, hv⟩ := hu.form
  obtain ⟨M, hm⟩ : ∃ n, n = l.length := ⟨_, rfl⟩
  rw [← hm] at hv ml2
  subst hv
  by_cases hl : N ≤ 200
  · by_cases hl2 : M ≤ 20
    · have HM := hid hm
      have G1 := hid (fun u v w hu hv => H1 u v l s w hu hv hli hi (by omega) (by omega))
      have G2 := hid (fun u v w hu hv => H2 u v l s w hu hv hli hi (by omega) (by omega))
      have HFT := hid (fun (q : Int) (hq : inI q = true) u w h => HF q u s w hq h hi (by omega))
      have HEN := hid (fun (q : Int) (hq : inI q = true) u w h => HE q u s w hq h hi (by omega))
      have HIN := hid (fun j (hj : j < M) => List.all_eq_true.1 hli _ (getD_mem20 (l := l) (j := j) (by omega)))
      have hB := hid (Below.refl w.heap.size w)
      clear hm hn h hu HE HF H1 H2
      by_cases hok : (firstR s l).2 = 0
      · obtain ⟨hz, hfa, ⟨j0, hj0, hja, hjb⟩, hfb, hbest⟩ := first_ok2 hok
        rw [hok] at G1
        rw [hz] at G2
        have GA := hid (fun u w h => HFT.out (firstR s l).1 (fit_inI hfa) u w h)
        have GB := hid (fun u w h => HFT.out (leastR s l).1 (fit_inI hfb) u w h)
        have GE := hid (fun u w h => HEN.out (leastR s l).1 (fit_inI hfb) u w h)
        rw [hfa] at GA
        rw [hfb] at GB
        rw [enc_of_fit hfb] at GE
        obtain ⟨bl, hbl⟩ : ∃ q, q = (encS (leastR s l).1 s).1.length := ⟨_, rfl⟩
        have HBL := hid hbl
        have HBEST := hid (fun j (hj : j < M) (hf : fitB (l.getD j 0) s = true) => (show bl ≤ (encS (l.getD j 0) s).1.length from by rw [hbl]; exact hbest _ (getD_mem20 (by have := HM.out; omega)) hf))
        have HJ := hid (show j0 < M ∧ l.getD j0 0 = (firstR s l).1 ∧ (∀ i, i < j0 → fitB (l.getD i 0) s = false) ∧ fitB (l.getD j0 0) s = true from ⟨by have := HM.out; omega, hja, hjb, by rw [hja]; exact hfa⟩)
        clear hok hz hfa hfb hja hjb hbest hbl hj0
        generalize (encS (leastR s l).1 s).2.1 = ea at GE
        generalize (encS (leastR s l).1 s).1 = eb at GE HBL
        generalize (firstR s l).1 = q1 at G1 GA HJ
        generalize (leastR s l).1 = q2 at G2 GB GE
        go_enter Try.func3, Try.ntmps3
        go_wp2_with (first
          | (have _u := TOK3; clear _u; go_at_call 7; refine (GB.out _ _ HS.out).mono ?_; rintro e w5 ⟨rfl, hb⟩; replace HS := hid (HS.out.below hb); replace HL := hid (HL.out.below hb); replace hB := hid (hB.out.trans (hb.mono hB.out.size)); clear hb)
          | (have _u := TOK2; clear _u; go_at_call 7; refine (GA.out _ _ HS.out).mono ?_; rintro e w4 ⟨rfl, hb⟩; replace HS := hid (HS.out.below hb); replace HL := hid (HL.out.below hb); replace hB := hid (hB.out.trans (hb.mono hB.out.size)); have TOK3 := hid trivial; clear hb)
          | (go_at_call 9; refine (GE.out _ _ HS.out).mono ?_; rintro e w3 ⟨x3, rfl, ho, hb⟩; obtain ⟨ab, cb, hvb⟩ := ho.sl.form; rw [← HBL.out] at hvb; subst hvb; replace HS := hid (HS.out.below hb); replace HL := hid (HL.out.below hb); replace hB := hid (hB.out.trans (hb.mono hB.out.size)); have TOK2 := hid trivial; clear hb ho)
          | (go_at_call 5; refine (G1.out _ _ _ HL.out HS.out).mono ?_; rintro e w1 ⟨rfl, hb⟩; replace HS := hid (HS.out.below hb); replace HL := hid (HL.out.below hb); replace hB := hid (hB.out.trans (hb.mono hB.out.size)); clear hb)
          | (go_at_call 6; refine (G2.out _ _ _ HL.out HS.out).mono ?_; rintro e w2 ⟨rfl, hb⟩; replace HS := hid (HS.out.below hb); replace HL := hid (HL.out.below hb); replace hB := hid (hB.out.trans (hb.mono hB.out.size)); clear hb))
        go_loopw [13, 14] (fun mv iv wr => ∃ (j : Nat) (mb : Bool), j ≤ M ∧ iv = .int .i64 j ∧ mv = .bool mb ∧ Hid (mb = decide (j0 < j)) ∧ Hid (Below w5.heap.size w5 wr)) (fun _ iv _ => M - (intOf iv).toNat)
        case atStart => exact ⟨0, false, by omega, rfl, rfl, (show false = decide (j0 < 0) from (decide_eq_false (by omega)).symm), Below.refl _ _⟩
        case round =>
          obtain ⟨j, mb, hj, rfl, rfl, hmb, hbel⟩ := hrel
          by_cases hlt : j < M
          · obtain ⟨a', c', hv', -, -, hh⟩ := HL.out
            injection hv' with e1 e2 e3
            subst e1 e3
            rcases hh with hh | ⟨b1, o1, rfl, hb1, cc⟩
            · have := HL.out.cap_ge18
              have := HM.out
              omega
            have hb1 := hb1 (by have := HM.out; omega)
            have d1 := (hbel.out.cell (p := ⟨b1, o1 + j, none⟩) hb1).trans (cc j (by have := HM.out; omega))
            have HC := hid (HFT.out _ (HIN.out j hlt))
            cases hfj : fitB (l.getD j 0) s with
            | false =>
              rw [hfj] at HC
              have hne : j ≠ j0 := fun e => by have := HJ.out.2.2.2; rw [← e, hfj] at this; cases this
              have HM2 := hid (show mb = decide (j0 < j + 1) from by rw [hmb.out]; congr 1; rw [eq_iff_iff]; omega)
              generalize l.getD j 0 = x at d1 HC
              clear cc e2 hfj hne
              go_wp2_with (go_at_call 7; refine (HC.out _ wr (HS.out.below hbel.out)).mono ?_; rintro e w6 ⟨rfl, hb⟩; have HB3 := hid (hbel.out.trans (hb.mono hbel.out.size)); clear hb)
              go_roundw
              case rel => exact ⟨j + 1, mb, by omega, by go_num, rfl, HM2.out, HB3.out⟩
              case measure => simp [intOf]; omega
            | true =>
              rw [hfj] at HC
              have hge : j0 ≤ j := by
                apply Classical.byContradiction
                intro hn
                have := HJ.out.2.2.1 j (by omega)
                rw [hfj] at this
                cases this
              have HM2 := hid (show true = decide (j0 < j + 1) from (decide_eq_true (by omega)).symm)
              have HEJ := hid (HEN.out _ (HIN.out j hlt))
              rw [enc_of_fit hfj] at HEJ
              have hbb := HBEST.out j hlt hfj
              obtain ⟨xl, hxl⟩ : ∃ q, q = (encS (l.getD j 0) s).1.length := ⟨_, rfl⟩
              have HXL := hid hxl
              rw [← hxl] at hbb
              have hlen : decide ((xl : Int) < (bl : Int)) = false := decide_eq_false (by omega)
              have hq : mb = false → ((l.getD j 0) != q1) = false := fun h => by
                have h1 := hmb.out
                rw [h] at h1
                have h2 := of_decide_eq_false h1.symm
                have h3 : j = j0 := by omega
                rw [h3, HJ.out.2.1]
                simp
              have hlen2 : ¬ (xl : Int) < (bl : Int) := by omega
              have hlen3 : (bl : Int) ≤ (xl : Int) := by omega
              clear hxl hfj hge
              generalize (encS (l.getD j 0) s).2.1 = xa at HEJ
              generalize (encS (l.getD j 0) s).1 = xb at HEJ HXL
              generalize l.getD j 0 = x at d1 HC HEJ hq
              clear cc e2
              cases mb with
              | true =>
                clear hq
                go_wp2_with (first
                  | (go_at_call 9; refine (HEJ.out _ _ (HS.out.below HB3.out)).mono ?_; rintro e w7 ⟨x7, rfl, ho, hb⟩; obtain ⟨a7, c7, hv7⟩ := ho.sl.form; rw [← HXL.out] at hv7; subst hv7; have HB4 := hid (HB3.out.trans (hb.mono HB3.out.size)); clear hb ho)
                  | (go_at_call 7; refine (HC.out _ wr (HS.out.below hbel.out)).mono ?_; rintro e w6 ⟨rfl, hb⟩; have d2 := (hb.cell (World.block_lt_of_cell? wr _ d1)).trans d1; have HB3 := hid (hbel.out.trans (hb.mono hbel.out.size)); clear hb))
                go_roundw
                case rel => exact ⟨j + 1, true, by omega, by go_num, rfl, HM2.out, HB4.out⟩
                case measure => simp [intOf]; omega
              | false =>
                replace hq := hq rfl
                go_wp2_with (first
                  | (go_at_call 9; refine (HEJ.out _ _ (HS.out.below HB3.out)).mono ?_; rintro e w7 ⟨x7, rfl, ho, hb⟩; obtain ⟨a7, c7, hv7⟩ := ho.sl.form; rw [← HXL.out] at hv7; subst hv7; have HB4 := hid (HB3.out.trans (hb.mono HB3.out.size)); clear hb ho)
                  | (go_at_call 7; refine (HC.out _ wr (HS.out.below hbel.out)).mono ?_; rintro e w6 ⟨rfl, hb⟩; have d2 := (hb.cell (World.block_lt_of_cell? wr _ d1)).trans d1; have HB3 := hid (hbel.out.trans (hb.mono hbel.out.size)); clear hb))
                go_roundw
                case rel => exact ⟨j + 1, true, by omega, by go_num, rfl, HM2.out, HB4.out⟩
                case measure => simp [intOf]; omega
          · obtain rfl : j = M := by omega
            obtain rfl : mb = true := by rw [hmb.out]; exact decide_eq_true HJ.out.1
            go_wp2_with (go_at_call 8; refine (HW.out _).mono ?_; rintro e w6 ⟨rfl, hb⟩; have HB3 := hid (hbel.out.trans (hb.mono hbel.out.size)); clear hb)
            go_ret
            exact ⟨rfl, hB.out.trans (HB3.out.mono hB.out.size)⟩
      · obtain ⟨hz, hall⟩ := first_none2 hok
        have HALL := hid (fun j (hj : j < M) => hall _ (getD_mem20 (l := l) (j := j) (by have := HM.out; omega)))
        have hok2 : ((firstR s l).2 == 0) = false := by simpa using hok
        have hz2 : ((leastR s l).2 == 0) = false := by simpa using hz
        have hok3 : ((firstR s l).2 != 0) = true := by simpa using hok
        clear hok hz hall
        generalize (firstR s l).2 = e1 at G1 hok2 hok3
        generalize (leastR s l).2 = e2 at G2 hz2
        generalize (firstR s l).1 = q1 at G1
        generalize (leastR s l).1 = q2 at G2
        go_enter Try.func3, Try.ntmps3
        go_wp2_with (first
          | (go_at_call 5; refine (G1.out _ _ _ HL.out HS.out).mono ?_; rintro e w1 ⟨rfl, hb⟩; replace HS := hid (HS.out.below hb); replace HL := hid (HL.out.below hb); replace hB := hid (hB.out.trans (hb.mono hB.out.size)); clear hb)
          | (go_at_call 6; refine (G2.out _ _ _ HL.out HS.out).mono ?_; rintro e w2 ⟨rfl, hb⟩; replace HS := hid (HS.out.below hb); replace HL := hid (HL.out.below hb); replace hB := hid (hB.out.trans (hb.mono hB.out.size)); clear hb))
        go_loopw [9] (fun iv wr => ∃ j : Nat, j ≤ M ∧ iv = .int .i64 j ∧ Hid (Below w2.heap.size w2 wr)) (fun iv _ => M - (intOf iv).toNat)
        case atStart => exact ⟨0, by omega, rfl, Below.refl _ _⟩
        case round =>
          obtain ⟨j, hj, rfl, hbel⟩ := hrel
          by_cases hlt : j < M
          · obtain ⟨a', c', hv', -, -, hh⟩ := HL.out
            injection hv' with e1 e2 e3
            subst e1 e3
            rcases hh with hh | ⟨b1, o1, rfl, hb1, cc⟩
            · have := HL.out.cap_ge18
              have := HM.out
              omega
            have hb1 := hb1 (by have := HM.out; omega)
            have d1 := (hbel.out.cell (p := ⟨b1, o1 + j, none⟩) hb1).trans (cc j (by have := HM.out; omega))
            have HC := hid (HFT.out _ (HIN.out j hlt))
            have hfj := HALL.out j hlt
            rw [hfj] at HC
            generalize l.getD j 0 = x at d1 HC
            clear cc e2 hfj
            go_wp2_with (go_at_call 7; refine (HC.out _ wr (HS.out.below hbel.out)).mono ?_; rintro e w3 ⟨rfl, hb⟩; have HB3 := hid (hbel.out.trans (hb.mono hbel.out.size)); clear hb)
            go_roundw
            case rel => exact ⟨j + 1, by omega, by go_num, HB3.out⟩
            case measure => simp [intOf]; omega
          · obtain rfl : j = M := by omega
            go_wp2_with (go_at_call 8; refine (HW.out _).mono ?_; rintro e w3 ⟨rfl, hb⟩; have HB3 := hid (hbel.out.trans (hb.mono hbel.out.size)); clear hb)
            go_ret
            exact ⟨rfl, hB.out.trans (HB3.out.mono hB.out.size)⟩
    · have hf : 20 < M := by omega
      have hf2 : decide (200 < (N : Int)) = false := decide_eq_false (by omega)
      clear hl2 HE HF H1 H2
      go_enter Try.func3, Try.ntmps3
      go_wp2
      go_ret
      exact ⟨rfl, Below.refl _ _⟩
  · have hf : 200 < N := by omega
    clear hl HE HF H1 H2
    go_enter Try.func3, Try.ntmps3
    go_wp2
    go_ret
    exact ⟨rfl, Below.refl _ _⟩
end Go.Proofs.Ytildhebaikeknaa
