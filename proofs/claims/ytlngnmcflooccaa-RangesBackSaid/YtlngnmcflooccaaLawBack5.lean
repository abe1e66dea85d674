/- RangesBack answers true: what is packed is unpacked to a table that says the same, with no more ranges. -/
import Derived.Test.YtlngnmcflooccaaWakes5
import Derived.Test.YtlngnmcflooccaaLater
import Derived.Test.YtlngnmcflooccaaKeepStage
namespace Go.Proofs.Ytlngnmcflooccaa
open Go.RowKit

set_option maxHeartbeats 8000000 in
set_option maxRecDepth 100000 in
theorem lawBack5 (v1 : Value) (L : List Rg) (w : World) (h1 : Sg w v1 L) :
    Calls Try.prog 5 #[v1] w fun e w' => e = .returned (.bool true) ∧ Below w.heap.size w w' := by
  have ml1 := h1.len
  have HS1 := hid h1
  have HPK := hid (rngPack v1 L w h1)
  obtain ⟨a1, cap1, rfl, q1, -, h1⟩ := h1
  obtain ⟨n1, hn1⟩ : ∃ n, n = L.length := ⟨_, rfl⟩
  have HN := hid hn1
  rw [← hn1] at q1 ml1 HS1 HPK ⊢
  clear h1 hn1
  by_cases hb1 : 60 < n1
  · go_enter Try.func5, Try.ntmps5
    go_wp2_with (fail)
    go_ret
    exact ⟨rfl, Below.refl _ _⟩
  by_cases hf : flatS L = true
  · have hok : okL (-1) L := by unfold flatS at hf; exact (of_decide_eq_true hf).2
    have HOK := hid hok
    have HF := hid hf
    obtain ⟨ix, hix⟩ : ∃ ix, ix = nats (packN (tabG L) 4352).1 := ⟨_, rfl⟩
    obtain ⟨bl, hbl⟩ : ∃ bl, bl = (packN (tabG L) 4352).2.flatten := ⟨_, rfl⟩
    have HIB := hid (show ix = nats (packN (tabG L) 4352).1 ∧ bl = (packN (tabG L) 4352).2.flatten from ⟨hix, hbl⟩)
    have HL1 : Hid (ix.length ≤ 10000) := hid (by rw [hix, pack_ixlen]; omega)
    have HL2 : Hid (bl.length ≤ 10000000) := hid (by rw [hbl]; have := pack_bllen L; omega)
    have HU := hid (unp_few hok (by have := HN.out; omega))
    rw [← hix, ← hbl] at HU
    obtain ⟨m, hm⟩ : ∃ m, m = (few L).length := ⟨_, rfl⟩
    have hmn : m ≤ n1 := by have := few_len hok; have := HN.out; omega
    have HM := hid hm
    clear hf hok hix hbl hm
    go_enter Try.func5, Try.ntmps5
    go_wp2_with (first
      | (go_at_call 17; refine (keepStage _ _ _ _ ix bl ix bl _ (HO14.out.below HLAST.out) (HO24.out.below HLAST.out) HX1.out HX2.out).mono ?_; rw [eqL_self, eqL_self]; rintro e w9 ⟨rfl, hb9⟩; have HL9 := hid (HLAST.out.trans (hb9.mono HLAST.out.size)); have HU9 := hid (HU4.out.below HL9.out); have HB9 := hid (HB4.out.trans (HL9.out.mono HB4.out.size)); clear hb9)
      | (go_at_call 7; refine (rngPack _ (few L) w4 HU4.out).mono ?_; rintro e w5 ⟨p1, p2, en, rfl, hr5, hb5⟩; obtain ⟨rfl, hx1, hx2⟩ := hr5.out (few_flat HOK.out (by have := HN.out; omega)); rw [few_pack HOK.out, ← HIB.out.1] at hx1; rw [few_pack HOK.out, ← HIB.out.2] at hx2; obtain ⟨aj, cj, e1⟩ := hx1.sl.form; obtain ⟨ad, cd, e2⟩ := hx2.sl.form; rw [HIXL.out] at e1; rw [HBLL.out] at e2; subst e1 e2; have HX1 := hid (hx1.sl.below ((Below.refl w5.heap.size w5).alloc (Nat.le_refl _) (.cells #[.slice aj 4352 cj, .slice ad lb cd] 25))); have HX2 := hid (hx2.sl.below ((Below.refl w5.heap.size w5).alloc (Nat.le_refl _) (.cells #[.slice aj 4352 cj, .slice ad lb cd] 25))); have HLAST := hid (hb5.alloc hb5.size (.cells #[.slice aj 4352 cj, .slice ad lb cd] 25)); have HST5 := hid (HST4.out.below HLAST.out HST4.out.lt); have z0 := HST5.out.cell 0; have z1 := HST5.out.cell 1; simp only [List.getElem?_cons_zero, List.getElem?_cons_succ] at z0 z1; clear hx1 hx2 hr5 hb5)
      | (go_at_call 8; refine (rngUnpack _ _ ix bl _ HO1.out HO2.out ⟨HL1.out, HL2.out⟩).mono ?_; rintro e w4 ⟨v4, en4, rfl, hr4, hb4⟩; obtain ⟨rfl, ho4⟩ := hr4.out HU.out; obtain ⟨a4, c4, hv4⟩ := ho4.form; rw [← HM.out] at hv4; subst hv4; have HU4 := hid ho4.sg; have HST4 := hid (HST.out.below hb4 HST.out.lt); have HO14 := hid (HO1.out.below hb4); have HO24 := hid (HO2.out.below hb4); have HB4 := hid (HB2.out.trans (hb4.mono HB2.out.size)); clear hr4 hb4 ho4)
      | (go_at_call 7; refine HPK.out.mono ?_; rintro e w2 ⟨p1, p2, en, rfl, hr2, hb2⟩; obtain ⟨rfl, ho1, ho2⟩ := hr2.out HF.out; rw [← HIB.out.1] at ho1; rw [← HIB.out.2] at ho2; obtain ⟨ai, ci, e1⟩ := ho1.sl.form; obtain ⟨ab, cb, e2⟩ := ho2.sl.form; have HIXL := hid (show ix.length = 4352 by rw [HIB.out.1]; exact pack_ixlen L); rw [HIXL.out] at e1; obtain ⟨lb, hlb⟩ : ∃ lb, lb = bl.length := ⟨_, rfl⟩; rw [← hlb] at e2; have HBLL := hid hlb.symm; subst e1 e2; clear hlb; have HO1 := hid (ho1.sl.below ((Below.refl w2.heap.size w2).alloc (Nat.le_refl _) (.cells #[.slice ai 4352 ci, .slice ab lb cb] 25))); have HO2 := hid (ho2.sl.below ((Below.refl w2.heap.size w2).alloc (Nat.le_refl _) (.cells #[.slice ai 4352 ci, .slice ab lb cb] 25))); have HST := hid (Box.made w2 25 [.slice ai 4352 ci, .slice ab lb cb]); have HB2 := hid (hb2.alloc hb2.size (.cells #[.slice ai 4352 ci, .slice ab lb cb] 25)); clear hr2 ho1 ho2 hb2))
    clear HPK HST HST4 HST5 z0 z1 HX1 HX2 HLAST HO1 HO2 HO14 HO24 HU4
    have HFLT : Hid (∀ wz, Below w9.heap.size w9 wz → ∀ c, Calls Try.prog 9 #[.slice a1 n1 cap1, .int .i64 c] wz fun e w'' => e = .returned (.int .i64 (lookS L c)) ∧ Below wz.heap.size wz w'') := hid (fun wz hb c => rngFlat _ L c wz (HS1.out.below (HB9.out.trans (hb.mono HB9.out.size))))
    obtain ⟨a5, c5, hv5, -, -, h5⟩ := HU9.out
    injection hv5 with hv5 hvm hv6
    subst hv5 hv6
    rw [← HM.out] at h5
    have H5 := hid h5
    clear h5 hvm
    go_loopw [9] (fun iv_ wr => ∃ i : Nat, i ≤ m ∧ iv_ = .int .i64 i ∧ Hid (Below w9.heap.size w9 wr)) (fun iv_ _ => m - (intOf iv_).toNat)
    case atStart => exact ⟨0, by omega, rfl, Below.refl _ _⟩
    case round =>
      obtain ⟨i, hi, rfl, hbel⟩ := hrel
      by_cases hit : i < m
      · rcases H5.out with hc | ⟨b1, o1, rfl, hbb, c1⟩
        · exfalso; have := HU9.out; obtain ⟨_, _, he, hl, _, _⟩ := this; injection he with _ _ he; have := HM.out; omega
        have hbb1 := hbb (by omega)
        have hcell : ∀ j, j < m → wr.cell? ⟨b1, o1 + j * 3, none⟩ = some (.int .i64 ((few L).getD j noRg).f) ∧ wr.cell? ⟨b1, o1 + j * 3 + 1, none⟩ = some (.int .i64 ((few L).getD j noRg).t) ∧ wr.cell? ⟨b1, o1 + j * 3 + 2, none⟩ = some (.int .i64 ((few L).getD j noRg).v) := fun j hj => by
          obtain ⟨d1, d2, d3⟩ := c1 j hj
          exact ⟨(hbel.out.cell (p := ⟨b1, o1 + j * 3, none⟩) hbb1).trans d1, (hbel.out.cell (p := ⟨b1, o1 + j * 3 + 1, none⟩) hbb1).trans d2, (hbel.out.cell (p := ⟨b1, o1 + j * 3 + 2, none⟩) hbb1).trans d3⟩
        obtain ⟨d1, d2, d3⟩ := hcell i hit
        obtain ⟨e1, e2, e3⟩ := few_at (L := L) (i := i) (by rw [← HM.out]; exact hit)
        have hok1 := rg_ok (few_ok HOK.out) (i := i) (by rw [← HM.out]; exact hit)
        have HCELL := hid hcell
        have hap : ∀ j, j + 1 = i → ¬ (((few L).getD j noRg).t = ((few L).getD i noRg).f - 1 ∧ ((few L).getD j noRg).v = ((few L).getD i noRg).v) := fun j hj => by
          subst hj
          exact few_apart (by rw [← HM.out]; exact hit)
        have HAP := hid hap
        obtain ⟨r, hr⟩ : ∃ r, r = (few L).getD i noRg := ⟨_, rfl⟩
        rw [← hr] at d1 d2 d3 e1 e2 e3 hok1 HAP
        obtain ⟨rf, rt, rv⟩ := r
        simp only at d1 d2 d3 e1 e2 e3 hok1 HAP
        obtain ⟨r1, r2, r3, -, -⟩ := hok1
        clear hr c1 hbb hcell hap
        have HF5 := hid (fun (u : Later wr) (c : Int) => later_call (HFLT.out u.w (hbel.out.trans (u.below.mono hbel.out.size)) c))
        have HFf := hid (fun (u : Later wr) => HF5.out u rf)
        have HFt := hid (fun (u : Later wr) => HF5.out u rt)
        rw [e1] at HFf
        rw [e2] at HFt
        have s2 := fun u : Later wr => u.cell d1
        have s3 := fun u : Later wr => u.cell d2
        have s4 := fun u : Later wr => u.cell d3
        rcases Nat.eq_zero_or_pos i with h0 | h0
        · have hid0 : decide (0 < i) = false := decide_eq_false (by omega)
          have hid1 : decide ((0 : Int) < (i : Int)) = false := decide_eq_false (by omega)
          clear h0
          go_wp2_with (fail)
          refine region_later (by kernel_rfl) (by kernel_rfl) ?_
          repeat (go_big_quiet_step (first | (go_at_call 9; with_reducible exact HFf.out _) | (go_at_call 9; with_reducible exact HFt.out _)))
          refine wpQuiet_nil ?_
          intro _ hw'
          obtain ⟨u, hw''⟩ := hw'
          subst hw''
          have HBU := hid (hbel.out.trans (u.below.mono hbel.out.size))
          go_wp2_with (fail)
          go_roundw
          case rel => exact ⟨i + 1, by omega, by go_num, HBU.out⟩
          case measure => simp [intOf]; omega
        · obtain ⟨j, hj⟩ : ∃ j, j + 1 = i := ⟨i - 1, by omega⟩
          obtain ⟨f1, f2, f3⟩ := HCELL.out j (by omega)
          have hn := HAP.out j hj
          have hjm : j < m := by omega
          have wj : (i : Int) - 1 = (j : Int) := by omega
          obtain ⟨s, hs⟩ : ∃ s, s = (few L).getD j noRg := ⟨_, rfl⟩
          rw [← hs] at f1 f2 f3 hn
          obtain ⟨sf, st, sv⟩ := s
          simp only at f1 f2 f3 hn
          obtain ⟨rm, hrm⟩ : ∃ rm, rm = rf - 1 := ⟨_, rfl⟩
          have wrm : rf - 1 = rm := hrm.symm
          have hrm1 : -1 ≤ rm ∧ rm ≤ 1114111 := by omega
          obtain ⟨hm1, hm2⟩ := hrm1
          rw [← hrm] at hn
          have s5 := fun u : Later wr => u.cell f2
          have s6 := fun u : Later wr => u.cell f3
          clear hs hj f1 hrm
          by_cases ht : st = rm
          · have htb : (st == rm) = true := by rw [ht]; simp
            have hvb : (sv == rv) = false := by simpa using fun h => hn ⟨ht, h⟩
            clear ht hn
            go_wp2_with (fail)
            refine region_later (by kernel_rfl) (by kernel_rfl) ?_
            repeat (go_big_quiet_step (first | (go_at_call 9; with_reducible exact HFf.out _) | (go_at_call 9; with_reducible exact HFt.out _)))
            refine wpQuiet_nil ?_
            intro _ hw'
            obtain ⟨u, hw''⟩ := hw'
            subst hw''
            have HBU := hid (hbel.out.trans (u.below.mono hbel.out.size))
            go_wp2_with (fail)
            go_roundw
            case rel => exact ⟨i + 1, by omega, by go_num, HBU.out⟩
            case measure => simp [intOf]; omega
          · have htb : (st == rm) = false := by simpa using ht
            clear ht hn
            go_wp2_with (fail)
            refine region_later (by kernel_rfl) (by kernel_rfl) ?_
            repeat (go_big_quiet_step (first | (go_at_call 9; with_reducible exact HFf.out _) | (go_at_call 9; with_reducible exact HFt.out _)))
            refine wpQuiet_nil ?_
            intro _ hw'
            obtain ⟨u, hw''⟩ := hw'
            subst hw''
            have HBU := hid (hbel.out.trans (u.below.mono hbel.out.size))
            go_wp2_with (fail)
            go_roundw
            case rel => exact ⟨i + 1, by omega, by go_num, HBU.out⟩
            case measure => simp [intOf]; omega
      · obtain rfl : i = m := by omega
        go_wp2_with (go_at_call 18; refine (lawWakes5 wr).mono ?_; rintro e w7 ⟨rfl, hb7⟩; have HB7 := hid (hbel.out.trans (hb7.mono hbel.out.size)); clear hb7)
        go_ret
        exact ⟨rfl, HB9.out.trans (HB7.out.mono HB9.out.size)⟩
  · have hf' : flatS L = false := by simpa using hf
    have HF := hid hf'
    clear hf hf'
    go_enter Try.func5, Try.ntmps5
    go_wp2_with (first
      | (go_at_call 7; refine HPK.out.mono ?_; rintro e w2 ⟨p1, p2, en, rfl, hr2, hb2⟩; obtain ⟨rfl, rfl, rfl⟩ := hr2.out2 HF.out; have HB2 := hid (hb2.alloc hb2.size (.cells #[.slice none 0 0, .slice none 0 0] 25)); clear hr2 hb2)
      | (go_at_call 18; refine (lawWakes5 _).mono ?_; rintro e w3 ⟨rfl, hb3⟩; have HB3 := hid (HB2.out.trans (hb3.mono HB2.out.size)); clear hb3))
    go_ret
    exact ⟨rfl, HB3.out⟩
end Go.Proofs.Ytlngnmcflooccaa
