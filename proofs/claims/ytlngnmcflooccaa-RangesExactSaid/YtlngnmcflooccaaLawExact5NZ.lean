/- RangesExact answers true, where the table is not right and the two-stage table is not unpacked. -/
import Derived.Test.YtlngnmcflooccaaLawExact5L
namespace Go.Proofs.Ytlngnmcflooccaa
open Go.RowKit
set_option maxHeartbeats 8000000 in
set_option maxRecDepth 100000 in
theorem lawExact5NZ (v1 : Value) (L : List Rg) (c : Int) (u1 u2 : Value) (ix bl : List Int) (w : World) (h1 : Sg w v1 L) (h2 : Sl .i64 w u1 ix) (h3 : Sl .i64 w u2 bl) (hlong : L.length ≤ 60 ∧ ix.length ≤ 5000 ∧ bl.length ≤ 5000) (hf : flatS L = false) (hun : unpackS ix bl = none) :
    Calls Try.prog 3 #[v1, .int .i64 c, .agg #[u1, u2]] w fun e w' => e = .returned (.bool true) ∧ Below w.heap.size w w' := by
  have ml1 := h1.len
  have ml2 := h2.len
  have ml3 := h3.len
  have HS1 := hid h1
  have HS2 := hid h2
  have HS3 := hid h3
  have HBA : Hid (Below w.heap.size w (w.alloc (.cells #[u1, u2] 25))) := hid (by (repeat (first | exact Below.refl _ _ | exact below_drewN _ | refine Below.drew ?_ | refine Below.alloc ?_ (by first | omega | (simp; done) | (simp; omega)) _ | refine Below.setCell ?_ (by first | (simp; done) | (simp; omega)) _ | refine below_drewN' ?_ _)))
  obtain ⟨a1, cap1, hv1⟩ := h1.form
  obtain ⟨a2, cap2, hv2⟩ := h2.form
  obtain ⟨a3, cap3, hv3⟩ := h3.form
  obtain ⟨n1, hn1⟩ : ∃ n, n = L.length := ⟨_, rfl⟩
  obtain ⟨n2, hn2⟩ : ∃ n, n = ix.length := ⟨_, rfl⟩
  obtain ⟨n3, hn3⟩ : ∃ n, n = bl.length := ⟨_, rfl⟩
  have HN := hid (show n1 = L.length ∧ n2 = ix.length ∧ n3 = bl.length from ⟨hn1, hn2, hn3⟩)
  rw [← hn1] at hv1 ml1
  rw [← hn2] at hv2 ml2
  rw [← hn3] at hv3 ml3
  subst hv1 hv2 hv3
  have HST0 := hid (Box.made w 25 [.slice a2 n2 cap2, .slice a3 n3 cap3])
  have x00 := HST0.out.cell 0
  have x01 := HST0.out.cell 1
  simp only [List.getElem?_cons_zero, List.getElem?_cons_succ] at x00 x01
  clear h1 h2 h3 hn1 hn2 hn3
  have hl : n1 ≤ 60 ∧ n2 ≤ 5000 ∧ n3 ≤ 5000 := by have := HN.out; omega
  obtain ⟨hb1, hb2, hb3⟩ := hl
  have HF := hid hf
  have HUN := hid hun
  have HPK := hid (rngPack (.slice a1 n1 cap1) L (w.alloc (.cells #[.slice a2 n2 cap2, .slice a3 n3 cap3] 25)) (HS1.out.below HBA.out))
  clear hlong hf hun
  go_enter Try.func3, Try.ntmps3
  go_wp2_with (first
    | (go_at_call 8; refine (rngUnpack _ _ ix bl _ (HS2.out.below HBW.out) (HS3.out.below HBW.out) (by have := HN.out; omega)).mono ?_; rintro e w4 ⟨v4, en4, rfl, hr4, hb4⟩; obtain ⟨rfl, rfl⟩ := hr4.out2 HUN.out; have HB4 := hid hb4; clear hr4 hb4)
    | (go_at_call 7; refine HPK.out.mono ?_; rintro e w2 ⟨p1, p2, en, rfl, hr2, hb2⟩; obtain ⟨rfl, rfl, rfl⟩ := hr2.out2 HF.out; have HBW := hid ((HBA.out.trans (hb2.mono (by simp))).alloc (HBA.out.trans (hb2.mono (by simp))).size (.cells #[.slice none 0 0, .slice none 0 0] 25)); have HSA := hid ((HST0.out.below hb2 HST0.out.lt).alloc (.cells #[.slice none 0 0, .slice none 0 0] 25)); have HSB := hid (Box.made w2 25 [.slice none 0 0, .slice none 0 0]); have HX := hid (fun wz (hz : Below (w2.alloc (.cells #[.slice none 0 0, .slice none 0 0] 25)).heap.size (w2.alloc (.cells #[.slice none 0 0, .slice none 0 0] 25)) wz) => (show Below w.heap.size w wz ∧ wz.cell? ⟨w.heap.size, 0, none⟩ = some (.slice a2 n2 cap2) ∧ wz.cell? ⟨w.heap.size, 1, none⟩ = some (.slice a3 n3 cap3) ∧ wz.cell? ⟨w2.heap.size, 0, none⟩ = some (.slice none 0 0) ∧ wz.cell? ⟨w2.heap.size, 1, none⟩ = some (.slice none 0 0) from ⟨HBW.out.trans (hz.mono HBW.out.size), (HSA.out.below hz HSA.out.lt).cell 0, (HSA.out.below hz HSA.out.lt).cell 1, (HSB.out.below hz HSB.out.lt).cell 0, (HSB.out.below hz HSB.out.lt).cell 1⟩)); have y0 := HSA.out.cell 0; have y1 := HSA.out.cell 1; simp only [List.getElem?_cons_zero, List.getElem?_cons_succ] at y0 y1; clear hr2 hb2))
  obtain ⟨hw4, x0, x1, -, -⟩ := HX.out w4 HB4.out
  have s0 := fun u : Later w4 => u.cell x0
  have s1 := fun u : Later w4 => u.cell x1
  have HG1 := hid (fun (u : Later w4) => later_call (rngFlat (.slice a1 n1 cap1) L c u.w (HS1.out.below (hw4.trans (u.below.mono hw4.size)))))
  have HG2 := hid (fun (u : Later w4) => later_call (same_below (refLook (.slice a1 n1 cap1) L c u.w (HS1.out.below (hw4.trans (u.below.mono hw4.size))))))
  have HG3 := hid (fun (u : Later w4) => later_call (rngGet (.slice a2 n2 cap2) (.slice a3 n3 cap3) ix bl c u.w (HS2.out.below (hw4.trans (u.below.mono hw4.size))) (HS3.out.below (hw4.trans (u.below.mono hw4.size)))))
  have HG4 := hid (fun (u : Later w4) => later_call (refGet (.slice a2 n2 cap2) (.slice a3 n3 cap3) ix bl c u.w (HS2.out.below (hw4.trans (u.below.mono hw4.size))) (HS3.out.below (hw4.trans (u.below.mono hw4.size)))))
  clear y0 y1
  refine region_later (by kernel_rfl) (by kernel_rfl) ?_
  repeat (go_big_quiet_step (first | (go_at_call 9; with_reducible exact HG1.out _) | (go_at_call 10; with_reducible exact HG2.out _) | (go_at_call 11; with_reducible exact HG3.out _) | (go_at_call 12; with_reducible exact HG4.out _)))
  refine wpQuiet_nil ?_
  intro _ hw'
  obtain ⟨u, hw''⟩ := hw'
  subst hw''
  have HBU := hid (HB4.out.trans (u.below.mono HB4.out.size))
  have h4U := hid u.below
  obtain ⟨hwu, t0, t1, -, -⟩ := HX.out u.w HBU.out
  clear s0 s1 x0 x1 HG1 HG2 HG3 HG4
  go_wp2_with (first
    | (go_at_call 13; refine (refUnpack _ _ ix bl u.w (HS2.out.below hwu) (HS3.out.below hwu) (by have := HN.out; omega)).mono ?_; rintro e w6 ⟨v6, ok6, rfl, hr6, hb6⟩; obtain ⟨rfl, rfl⟩ := hr6.out2 HUN.out; have HB6 := hid (HBU.out.trans (hb6.mono HBU.out.size)); clear hr6 hb6)
    | (go_at_call 15; refine (refFlat (.slice a1 n1 cap1) L w6 (HS1.out.below (HX.out _ HB6.out).1)).mono ?_; rw [HF.out]; rintro e w8 ⟨rfl, hb8⟩; have HB8 := hid (HB6.out.trans (hb8.mono HB6.out.size)); obtain ⟨hw8, -, -, z0, z1⟩ := HX.out w8 HB8.out; clear hb8)
    | (go_at_call 16; refine (rngCheck (.slice a1 n1 cap1) L w8 (HS1.out.below hw8)).mono ?_; rw [chkE_f HF.out]; rintro e w9 ⟨rfl, hb9⟩; have HB9 := hid (HB8.out.trans (hb9.mono HB8.out.size)); obtain ⟨hw9, -, -, q0, q1⟩ := HX.out w9 HB9.out; clear hb9)
    | (go_at_call 17; refine (keepStage (.slice none 0 0) (.slice none 0 0) (.slice none 0 0) (.slice none 0 0) [] [] [] [] w9 (nil_sl _) (nil_sl _) (nil_sl _) (nil_sl _)).mono ?_; rw [eqL_self]; rintro e w10 ⟨rfl, hb10⟩; have HB10 := hid (HB9.out.trans (hb10.mono HB9.out.size)); clear hb10)
    | (go_at_call 18; refine (lawWakes5 w10).mono ?_; rintro e w11 ⟨rfl, hb11⟩; have HB11 := hid (HB10.out.trans (hb11.mono HB10.out.size)); clear hb11))
  go_ret
  exact ⟨rfl, (HX.out w11 HB11.out).1⟩
end Go.Proofs.Ytlngnmcflooccaa
