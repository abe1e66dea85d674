/- RangesLook answers true: what is packed is looked up as it was flat. -/
import Derived.Test.YtlngnmcflooccaaWakes5
import Derived.Test.YtlngnmcflooccaaLater
namespace Go.Proofs.Ytlngnmcflooccaa
open Go.RowKit

theorem ret_true5 {b : Bool} (h : b = true) : Ending.returned (.bool b) = .returned (.bool true) := by rw [h]

set_option maxHeartbeats 8000000 in
set_option maxRecDepth 100000 in
theorem lawLook5 (v1 : Value) (L : List Rg) (v2 : Value) (xs : List Int) (w : World) (h1 : Sg w v1 L) (h2 : Sl .i64 w v2 xs) :
    Calls Try.prog 4 #[v1, v2] w fun e w' => e = .returned (.bool true) ∧ Below w.heap.size w w' := by
  have ml1 := h1.len
  have ml2 := h2.len
  have HS1 := hid h1
  have HS2 := hid h2
  have HPK := hid (rngPack v1 L w h1)
  obtain ⟨a1, cap1, rfl, q1, -, h1⟩ := h1
  obtain ⟨a2, cap2, rfl, q2, -, h2⟩ := h2
  obtain ⟨n1, hn1⟩ : ∃ n, n = L.length := ⟨_, rfl⟩
  obtain ⟨n2, hn2⟩ : ∃ n, n = xs.length := ⟨_, rfl⟩
  have H1 := hid h1
  have H2 := hid h2
  have HN := hid (show n1 = L.length ∧ n2 = xs.length from ⟨hn1, hn2⟩)
  rw [← hn1] at q1 ml1 HS1 HPK H1 ⊢
  rw [← hn2] at q2 ml2 HS2 H2 ⊢
  clear h1 h2 hn1 hn2
  by_cases hb1 : 60 < n1
  · go_enter Try.func4, Try.ntmps4
    go_wp2_with (fail)
    go_ret
    exact ⟨rfl, Below.refl _ _⟩
  by_cases hb2 : 60 < n2
  · go_enter Try.func4, Try.ntmps4
    go_wp2_with (fail)
    go_ret
    exact ⟨rfl, Below.refl _ _⟩
  by_cases hf : flatS L = true
  · have hok : okL (-1) L := by unfold flatS at hf; exact (of_decide_eq_true hf).2
    have HOK := hid hok
    have HF := hid hf
    obtain ⟨ix, hix⟩ : ∃ ix, ix = nats (packN (tabG L) 4352).1 := ⟨_, rfl⟩
    obtain ⟨bl, hbl⟩ : ∃ bl, bl = (packN (tabG L) 4352).2.flatten := ⟨_, rfl⟩
    have HGA : Hid (∀ c, getS ix bl c = lookS L c) := hid (by rw [hix, hbl]; exact getS_all hok)
    have HIB := hid (show ix = nats (packN (tabG L) 4352).1 ∧ bl = (packN (tabG L) 4352).2.flatten from ⟨hix, hbl⟩)
    clear hf hok hix hbl
    go_enter Try.func4, Try.ntmps4
    go_wp2_with (go_at_call 7; refine HPK.out.mono ?_; rintro e w2 ⟨p1, p2, en, rfl, hr2, hb2⟩; obtain ⟨rfl, ho1, ho2⟩ := hr2.out HF.out; obtain ⟨ai, ci, e1⟩ := ho1.sl.form; obtain ⟨ab, cb, e2⟩ := ho2.sl.form; rw [pack_ixlen] at e1; generalize (packN (tabG L) 4352).2.flatten.length = lb at e2; subst e1 e2; rw [← HIB.out.1] at ho1; rw [← HIB.out.2] at ho2; have HO1 := hid (ho1.sl.below ((Below.refl w2.heap.size w2).alloc (Nat.le_refl _) (.cells #[.slice ai 4352 ci, .slice ab lb cb] 25))); have HO2 := hid (ho2.sl.below ((Below.refl w2.heap.size w2).alloc (Nat.le_refl _) (.cells #[.slice ai 4352 ci, .slice ab lb cb] 25))); have HST := hid (Box.made w2 25 [.slice ai 4352 ci, .slice ab lb cb]); have HB2 := hid (hb2.alloc hb2.size (.cells #[.slice ai 4352 ci, .slice ab lb cb] 25)); have HSZ := hid hb2.size; clear hr2 ho1 ho2 hb2)
    clear HPK
    generalize w2.alloc (.cells #[.slice ai 4352 ci, .slice ab lb cb] 25) = W at HO1 HO2 HST HB2 ⊢
    generalize w2.heap.size = S at HST HSZ ⊢
    have HGET : Hid (∀ wz, Below W.heap.size W wz → ∀ c, Calls Try.prog 11 #[.agg #[.slice ai 4352 ci, .slice ab lb cb], .int .i64 c] wz fun e w'' => e = .returned (.int .i64 (lookS L c)) ∧ Below wz.heap.size wz w'') := hid (fun wz hb c => by
      have := rngGet _ _ ix bl c wz (HO1.out.below hb) (HO2.out.below hb)
      rwa [HGA.out c] at this)
    have HFLT : Hid (∀ wz, Below W.heap.size W wz → ∀ c, Calls Try.prog 9 #[.slice a1 n1 cap1, .int .i64 c] wz fun e w'' => e = .returned (.int .i64 (lookS L c)) ∧ Below wz.heap.size wz w'') := hid (fun wz hb c => rngFlat _ L c wz (HS1.out.below (HB2.out.trans (hb.mono HB2.out.size))))
    clear HO1 HO2 HIB HGA
    go_loopw [7] (fun iv_ wr => ∃ k : Nat, k ≤ n2 ∧ iv_ = .int .i64 k ∧ Hid (Below W.heap.size W wr)) (fun iv_ _ => n2 - (intOf iv_).toNat)
    case atStart => exact ⟨0, by omega, rfl, Below.refl _ _⟩
    case round =>
      obtain ⟨k, hk, rfl, hbel⟩ := hrel
      have HBW := hid (HB2.out.trans (hbel.out.mono HB2.out.size))
      have hst := hid (HST.out.below hbel.out HST.out.lt)
      have x0 := hst.out.cell 0
      have x1 := hst.out.cell 1
      simp only [List.getElem?_cons_zero, List.getElem?_cons_succ] at x0 x1
      by_cases hlt : k < n2
      · rcases H2.out with hc | ⟨b2, o2, rfl, hbb, c2⟩
        · exfalso; omega
        have d2 := (HBW.out.cell (p := ⟨b2, o2 + k, none⟩) (hbb (by omega))).trans (c2 k hlt)
        generalize xs.getD k 0 = x at d2
        clear hbb c2
        go_wp2_with (fail)
        have s0 := fun u : Later wr => u.cell x0
        have s1 := fun u : Later wr => u.cell x1
        have s2 := fun u : Later wr => u.cell d2
        have HG5 := hid (fun (u : Later wr) (c : Int) => later_call (HGET.out u.w (hbel.out.trans (u.below.mono hbel.out.size)) c))
        have HF5 := hid (fun (u : Later wr) (c : Int) => later_call (HFLT.out u.w (hbel.out.trans (u.below.mono hbel.out.size)) c))
        refine region_later (by kernel_rfl) (by kernel_rfl) ?_
        repeat (go_big_quiet_step (first | (go_at_call 11; with_reducible exact HG5.out _ x) | (go_at_call 9; with_reducible exact HF5.out _ x)))
        refine wpQuiet_nil ?_
        intro _ hw'
        obtain ⟨u, hw''⟩ := hw'
        subst hw''
        have HBU := hid (hbel.out.trans (u.below.mono hbel.out.size))
        go_wp2_with (fail)
        go_roundw
        case rel => exact ⟨k + 1, by omega, by go_num, HBU.out⟩
        case measure => simp [intOf]; omega
      · obtain rfl : k = n2 := by omega
        clear hst x0 x1
        go_wp2_with (fail)
        have HB0 := hid hbel.out
        go_loopw [8] (fun iv_ wr => ∃ i : Nat, i ≤ n1 ∧ iv_ = .int .i64 i ∧ Hid (Below W.heap.size W wr)) (fun iv_ _ => n1 - (intOf iv_).toNat)
        case atStart => exact ⟨0, by omega, rfl, HB0.out⟩
        case round =>
          clear HBW hbel HB0
          obtain ⟨i, hi, rfl, hbel⟩ := hrel
          have HBW := hid (HB2.out.trans (hbel.out.mono HB2.out.size))
          have hst := hid (HST.out.below hbel.out HST.out.lt)
          have x0 := hst.out.cell 0
          have x1 := hst.out.cell 1
          simp only [List.getElem?_cons_zero, List.getElem?_cons_succ] at x0 x1
          by_cases hit : i < n1
          · rcases H1.out with hc | ⟨b1, o1, rfl, hbb, c1⟩
            · exfalso; omega
            obtain ⟨d1, d2, d3⟩ := c1 i hit
            have d1 := (HBW.out.cell (p := ⟨b1, o1 + i * 3, none⟩) (hbb (by omega))).trans d1
            have d2 := (HBW.out.cell (p := ⟨b1, o1 + i * 3 + 1, none⟩) (hbb (by omega))).trans d2
            have d3 := (HBW.out.cell (p := ⟨b1, o1 + i * 3 + 2, none⟩) (hbb (by omega))).trans d3
            have hrok := rg_ok HOK.out (i := i) (by have := HN.out.1; omega)
            have hmem : L.getD i noRg ∈ L := by
              rw [List.getD_eq_getElem?_getD, List.getElem?_eq_getElem (by have := HN.out.1; omega)]
              exact List.getElem_mem _
            have e1 := lookS_mem HOK.out hmem (Int.le_refl _) hrok.2.1
            have e2 := lookS_mem HOK.out hmem hrok.2.1 (Int.le_refl _)
            generalize L.getD i noRg = r at d1 d2 d3 hrok e1 e2
            obtain ⟨rf, rt, rv⟩ := r
            simp only at d1 d2 d3 hrok e1 e2
            obtain ⟨r1, r2, r3, -, -⟩ := hrok
            obtain ⟨rm, hrm⟩ : ∃ rm, rm = rf - 1 := ⟨_, rfl⟩
            have wrm : rf - 1 = rm := hrm.symm
            have hrm1 : -1 ≤ rm ∧ rm ≤ 1114111 := by omega
            obtain ⟨hm1, hm2⟩ := hrm1
            clear hbb c1 hmem hrm
            go_wp2_with (fail)
            have s0 := fun u : Later wr => u.cell x0
            have s1 := fun u : Later wr => u.cell x1
            have s2 := fun u : Later wr => u.cell d1
            have s3 := fun u : Later wr => u.cell d2
            have s4 := fun u : Later wr => u.cell d3
            have HG5 := hid (fun (u : Later wr) (c : Int) => later_call (HGET.out u.w (hbel.out.trans (u.below.mono hbel.out.size)) c))
            have HF5 := hid (fun (u : Later wr) (c : Int) => later_call (HFLT.out u.w (hbel.out.trans (u.below.mono hbel.out.size)) c))
            have HGf := hid (fun (u : Later wr) => HG5.out u rf)
            have HGt := hid (fun (u : Later wr) => HG5.out u rt)
            rw [e1] at HGf
            rw [e2] at HGt
            refine region_later (by kernel_rfl) (by kernel_rfl) ?_
            repeat (go_big_quiet_step (first | (go_at_call 11; with_reducible exact HGf.out _) | (go_at_call 11; with_reducible exact HGt.out _) | (go_at_call 11; with_reducible exact HG5.out _ rm) | (go_at_call 9; with_reducible exact HF5.out _ rm)))
            refine wpQuiet_nil ?_
            intro _ hw'
            obtain ⟨u, hw''⟩ := hw'
            subst hw''
            have HBU := hid (hbel.out.trans (u.below.mono hbel.out.size))
            go_wp2_with (fail)
            go_roundw
            case rel => exact ⟨i + 1, by omega, by go_num, HBU.out⟩
            case measure => simp [intOf]; omega
          · obtain rfl : i = n1 := by omega
            have HZ1 := hid (show lookS L (-1) = 0 from lookS_zero HOK.out (Int.le_refl _))
            have HZ2 : Hid (lookS L 1114112 = 0) := hid (by
              by_cases hz : lookS L 1114112 = 0
              · exact hz
              · obtain ⟨r, hr, h1, h2, _⟩ := lookS_some hz
                have := okL_mem HOK.out hr
                unfold maxS at this
                omega)
            go_wp2_with (first
              | (go_at_call 18; refine (lawWakes5 w6).mono ?_; rintro e w7 ⟨rfl, hb7⟩; have HB7 := hid (HB6.out.trans (hb7.mono HB6.out.size)); clear hb7)
              | (go_at_call 11; refine (HGET.out w5 HB5.out 1114112).mono ?_; rw [HZ2.out]; rintro e w6 ⟨rfl, hb6⟩; have HB6 := hid (HB5.out.trans (hb6.mono HB5.out.size)); clear hb6)
              | (go_at_call 11; refine (HGET.out wr hbel.out (-1)).mono ?_; rw [HZ1.out]; rintro e w5 ⟨rfl, hb5⟩; have HB5 := hid (hbel.out.trans (hb5.mono hbel.out.size)); have hst5 := hst.out.below hb5 hst.out.lt; have y0 := hst5.cell 0; have y1 := hst5.cell 1; simp only [List.getElem?_cons_zero, List.getElem?_cons_succ] at y0 y1; clear hb5 hst5))
            go_ret
            exact ⟨rfl, HB2.out.trans (HB7.out.mono HB2.out.size)⟩
  · have hf' : flatS L = false := by simpa using hf
    have HF := hid hf'
    clear hf hf'
    go_enter Try.func4, Try.ntmps4
    go_wp2_with (first
      | (go_at_call 7; refine HPK.out.mono ?_; rintro e w2 ⟨p1, p2, en, rfl, hr2, hb2⟩; obtain ⟨rfl, rfl, rfl⟩ := hr2.out2 HF.out; have HB2 := hid (hb2.alloc hb2.size (.cells #[.slice none 0 0, .slice none 0 0] 25)); clear hr2 hb2)
      | (go_at_call 18; refine (lawWakes5 _).mono ?_; rintro e w3 ⟨rfl, hb3⟩; have HB3 := hid (HB2.out.trans (hb3.mono HB2.out.size)); clear hb3))
    go_ret
    exact ⟨rfl, HB3.out⟩
end Go.Proofs.Ytlngnmcflooccaa
