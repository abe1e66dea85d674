/- Walk of law06's UcdRanges: each number of each range of the five tables. -/
import Derived.Test.YtpdcmfnemfopjaaUcdWakes
import Derived.Test.YtpdcmfnemfopjaaIx
import Derived.Test.YtpdcmfnemfopjaaLater
namespace Go.Proofs.Ytpdcmfnemfopjaa
open Go.RowKit

/-- a table whose ranges are right and keep off the surrogates -/
def goodT (l : List Rg) : Bool := decide (okL (-1) l) && l.all fun r => decide (r.t < 55296 ∨ 57343 < r.f)
theorem good_at {l : List Rg} (h : goodT l = true) {i : Nat} (hi : i < l.length) : 0 ≤ (l.getD i noRg).f ∧ (l.getD i noRg).f ≤ (l.getD i noRg).t ∧ (l.getD i noRg).t ≤ 1114111 ∧ ∀ c, (l.getD i noRg).f ≤ c → c ≤ (l.getD i noRg).t → scalarB c = true ∧ lookS l c = (l.getD i noRg).v ∧ (lookS l c != 0) = true := by
  unfold goodT at h
  simp only [Bool.and_eq_true, decide_eq_true_eq, List.all_eq_true] at h
  have e : l.getD i noRg = l[i] := by rw [List.getD_eq_getElem?_getD, List.getElem?_eq_getElem hi]; rfl
  have hm : l.getD i noRg ∈ l := by rw [e]; exact List.getElem_mem hi
  have h1 := okL_mem h.1 hm
  have h2 := h.2 _ hm
  unfold maxS at h1
  generalize l.getD i noRg = r at hm h1 h2
  refine ⟨h1.1, h1.2.1, h1.2.2.1, fun c hf ht => ?_⟩
  have hv := lookS_mem h.1 hm hf ht
  refine ⟨scalar_t ⟨by omega, by omega, by omega⟩, hv, ?_⟩
  rw [hv]
  simp only [bne_iff_ne]
  omega
theorem good_all : goodT tabClasses = true ∧ goodT tabAssigned = true ∧ goodT tabNothing = true ∧ goodT tabSpaces = true ∧ goodT tabProhibited = true := by decide +kernel

theorem ixr2 (x m : Int) (hm : 0 < m) (hl : m ≤ 1000000000) : 0 ≤ wrap64 ((IntKind.u64.wrap x).tmod m) ∧ wrap64 ((IntKind.u64.wrap x).tmod m) < m := by
  have h := ixr' x m hm
  have e : wrap64 ((IntKind.u64.wrap x).tmod m) = (IntKind.u64.wrap x).tmod m := by unfold wrap64; omega
  rw [e]
  exact h
theorem u64_same (m : Int) (h0 : 0 ≤ m) (h1 : m ≤ 1000000000) : IntKind.u64.wrap m = m := by
  simp only [IntKind.wrap, IntKind.bits, IntKind.signed]
  simp
  omega

set_option maxHeartbeats 4000000 in
theorem walkRanges6 (which at_ n : Int) (w : World) :
    Calls Try.prog 5 #[.int .i64 which, .int .i64 at_, .int .i64 n] w fun e w' => e = .returned (.bool true) ∧ Below w.heap.size w w' := by
  have HM := hid (ixr' which 5 (by decide))
  obtain ⟨t0, t1, t2, t3, t4⟩ := good_all
  have HT0 := hid t0
  have HT1 := hid t1
  have HT2 := hid t2
  have HT3 := hid t3
  have HT4 := hid t4
  clear t0 t1 t2 t3 t4
  go_enter Try.func5, Try.ntmps5
  go_upto_region 3 with (go_at_call 31; refine (apiClasses w).mono ?_; rintro e w1 ⟨v1, rfl, hs1, hb1⟩; have HS1 := hid hs1; have HB1 := hid hb1; clear hs1 hb1)
  obtain ⟨m0, m1⟩ := HM.out
  clear HM
  generalize hMM : (IntKind.u64.wrap which).tmod 5 = M at m0 m1 ⊢
  have HMM := hid hMM
  have hM : M = 0 ∨ M = 1 ∨ M = 2 ∨ M = 3 ∨ M = 4 := by omega
  clear m0 m1 hMM
  rcases hM with rfl | rfl | rfl | rfl | rfl
  · have hMM := HMM.out
    have HSX := hid HS1.out
    have HBX := hid HB1.out
    obtain ⟨wx, hwx⟩ : ∃ wx, wx = w1 := ⟨_, rfl⟩
    obtain ⟨vx, hvx⟩ : ∃ vx, vx = v1 := ⟨_, rfl⟩
    rw [← hwx, ← hvx] at HSX ⊢
    rw [← hwx] at HBX
    clear hwx hvx HS1 HB1
    obtain ⟨ax, cx, hvx⟩ := HSX.out.form
    have hll : 0 < tabClasses.length ∧ tabClasses.length ≤ 1000 := by decide
    obtain ⟨_, _, hax, _, _, hcell⟩ := HSX.out
    rw [hvx] at hax
    injection hax with hax1 _ hax2
    subst hax1 hax2
    obtain ⟨l, hl⟩ : ∃ l, l = tabClasses := ⟨_, rfl⟩
    have hgood := HT0.out
    rw [← hl] at hvx hll hcell hgood
    have HL := hid hl
    obtain ⟨m, hm⟩ : ∃ m, m = l.length := ⟨_, rfl⟩
    rw [← hm] at hvx hll hcell
    subst hvx
    obtain ⟨l0, l1⟩ := hll
    have hne : ((m : Int) == 0) = false := beq_eq_false_iff_ne.2 (by omega)
    have hnz : ¬ (m : Int) = 0 := by omega
    have hum := u64_same (m : Int) (by omega) (by omega)
    obtain ⟨x0, x1⟩ := ixr at_ (m : Int) (by omega) (by omega)
    obtain ⟨K, hK⟩ : ∃ K : Nat, wrap64 ((IntKind.u64.wrap at_).tmod (m : Int)) = (K : Int) := ⟨(wrap64 ((IntKind.u64.wrap at_).tmod (m : Int))).toNat, by omega⟩
    rw [hK] at x0 x1
    have hkm : K < m := by omega
    rcases hcell with hcell | ⟨bx, ox, rfl, hbx, hcell⟩
    · obtain ⟨_, _, hq1, hq2, _⟩ := HSX.out
      injection hq1 with _ hq3 hq4
      omega
    obtain ⟨d1, d2, d3⟩ := hcell K hkm
    obtain ⟨g0, g1, g2, gc⟩ := good_at hgood (i := K) (by omega)
    clear hcell hbx hgood HSX
    generalize l.getD K noRg = r at d1 d2 d3 g0 g1 g2 gc
    obtain ⟨rf, rt, rv⟩ := r
    simp only at d1 d2 d3 g0 g1 g2 gc
    obtain ⟨D, hD⟩ : ∃ D, D = rt - rf + 1 := ⟨_, rfl⟩
    have hD0 : 0 < D := by omega
    have hD1 : D ≤ 1114112 := by omega
    have hDz : ¬ D = 0 := by omega
    have huD := u64_same D (by omega) (by omega)
    obtain ⟨y0, y1⟩ := ixr2 n D hD0 (by omega)
    obtain ⟨N, hN⟩ : ∃ N, wrap64 ((IntKind.u64.wrap n).tmod D) = N := ⟨_, rfl⟩
    rw [hN] at y0 y1
    have hc1 := gc (rf + N) (by omega) (by omega)
    have HCC := hid hc1
    have hlm := hid hm
    have hD2 := hD.symm
    have yb : N ≤ 1114111 := by omega
    have HY := hid y1
    clear hl hm gc hc1 hD y1
    go_upto_region 14 with (fail)
    have HBW := hid (show Below w.heap.size w (wx.alloc (.cells #[.int .i64 rf, .int .i64 rt, .int .i64 rv] 37)) from HBX.out.alloc HBX.out.size _)
    have HNW := hid (Box.made wx 37 [.int .i64 rf, .int .i64 rt, .int .i64 rv])
    generalize wx.alloc (.cells #[.int .i64 rf, .int .i64 rt, .int .i64 rv] 37) = W at HBW HNW ⊢
    have HNW : Hid (Box 37 [.int .i64 rf, .int .i64 rt, .int .i64 rv] wx.heap.size W) := HNW
    have q0 := HNW.out.cell 0
    have q1 := HNW.out.cell 1
    have q2 := HNW.out.cell 2
    simp only [List.getElem?_cons_zero, List.getElem?_cons_succ] at q0 q1 q2
    clear d1 d2 d3
    go_quiet (fail)
    generalize rf + N = c at HCC ⊢
    clear q0 q1 q2
    have HBQ := hid (below_drewN' HBW.out nq)
    have HNQ := hid (HNW.out.drewN nq)
    generalize W.drewN nq = W2 at HBQ HNQ ⊢
    have HCL := hid (show classS c = rv by have h := HCC.out; rw [HL.out] at h; rw [← classS_t h.1]; exact h.2.1)
    have q2 := HNQ.out.cell 2
    simp only [List.getElem?_cons_zero, List.getElem?_cons_succ] at q2
    have hrr : (rv == rv) = true := by simp
    go_wp2_with (fail)
    have HBR := hid HBQ.out.drew
    have s2 := fun u : Later W2 => u.cell q2
    have HK := hid (fun u : Later W2 => later_call (by have := ucdClass c u.w; rw [HCL.out] at this; exact this))
    have HW := hid (fun u : Later W2 => later_call (lawWakes6 u.w))
    clear q2
    refine region_later (by kernel_rfl) (by kernel_rfl) ?_
    repeat (go_big_quiet_step ((first | (go_at_call 13; with_reducible exact HK.out _) | (go_at_call 30; with_reducible exact HW.out _))))
    refine wpQuiet_nil ?_
    intro _ hw'
    obtain ⟨u, hw''⟩ := hw'
    subst hw''
    have HBU := hid (HBQ.out.trans (u.below.mono HBQ.out.size))
    go_wp2_with (fail)
    go_ret
    exact ⟨rfl, HBU.out⟩
  · have hMM := HMM.out
    go_upto_region 11 with (go_at_call 32; refine (apiAssigned _).mono ?_; rintro e wx ⟨vx, rfl, hs2, hb2⟩; have HSX := hid hs2; have HBX := hid (HB1.out.trans (hb2.mono HB1.out.size)); clear hs2 hb2)
    clear HS1 HB1
    obtain ⟨ax, cx, hvx⟩ := HSX.out.form
    have hll : 0 < tabAssigned.length ∧ tabAssigned.length ≤ 1000 := by decide
    obtain ⟨_, _, hax, _, _, hcell⟩ := HSX.out
    rw [hvx] at hax
    injection hax with hax1 _ hax2
    subst hax1 hax2
    obtain ⟨l, hl⟩ : ∃ l, l = tabAssigned := ⟨_, rfl⟩
    have hgood := HT1.out
    rw [← hl] at hvx hll hcell hgood
    have HL := hid hl
    obtain ⟨m, hm⟩ : ∃ m, m = l.length := ⟨_, rfl⟩
    rw [← hm] at hvx hll hcell
    subst hvx
    obtain ⟨l0, l1⟩ := hll
    have hne : ((m : Int) == 0) = false := beq_eq_false_iff_ne.2 (by omega)
    have hnz : ¬ (m : Int) = 0 := by omega
    have hum := u64_same (m : Int) (by omega) (by omega)
    obtain ⟨x0, x1⟩ := ixr at_ (m : Int) (by omega) (by omega)
    obtain ⟨K, hK⟩ : ∃ K : Nat, wrap64 ((IntKind.u64.wrap at_).tmod (m : Int)) = (K : Int) := ⟨(wrap64 ((IntKind.u64.wrap at_).tmod (m : Int))).toNat, by omega⟩
    rw [hK] at x0 x1
    have hkm : K < m := by omega
    rcases hcell with hcell | ⟨bx, ox, rfl, hbx, hcell⟩
    · obtain ⟨_, _, hq1, hq2, _⟩ := HSX.out
      injection hq1 with _ hq3 hq4
      omega
    obtain ⟨d1, d2, d3⟩ := hcell K hkm
    obtain ⟨g0, g1, g2, gc⟩ := good_at hgood (i := K) (by omega)
    clear hcell hbx hgood HSX
    generalize l.getD K noRg = r at d1 d2 d3 g0 g1 g2 gc
    obtain ⟨rf, rt, rv⟩ := r
    simp only at d1 d2 d3 g0 g1 g2 gc
    obtain ⟨D, hD⟩ : ∃ D, D = rt - rf + 1 := ⟨_, rfl⟩
    have hD0 : 0 < D := by omega
    have hD1 : D ≤ 1114112 := by omega
    have hDz : ¬ D = 0 := by omega
    have huD := u64_same D (by omega) (by omega)
    obtain ⟨y0, y1⟩ := ixr2 n D hD0 (by omega)
    obtain ⟨N, hN⟩ : ∃ N, wrap64 ((IntKind.u64.wrap n).tmod D) = N := ⟨_, rfl⟩
    rw [hN] at y0 y1
    have hc1 := gc (rf + N) (by omega) (by omega)
    have HCC := hid hc1
    have hlm := hid hm
    have hD2 := hD.symm
    have yb : N ≤ 1114111 := by omega
    have HY := hid y1
    clear hl hm gc hc1 hD y1
    go_upto_region 14 with (fail)
    have HBW := hid (show Below w.heap.size w (wx.alloc (.cells #[.int .i64 rf, .int .i64 rt, .int .i64 rv] 37)) from HBX.out.alloc HBX.out.size _)
    have HNW := hid (Box.made wx 37 [.int .i64 rf, .int .i64 rt, .int .i64 rv])
    generalize wx.alloc (.cells #[.int .i64 rf, .int .i64 rt, .int .i64 rv] 37) = W at HBW HNW ⊢
    have HNW : Hid (Box 37 [.int .i64 rf, .int .i64 rt, .int .i64 rv] wx.heap.size W) := HNW
    have q0 := HNW.out.cell 0
    have q1 := HNW.out.cell 1
    have q2 := HNW.out.cell 2
    simp only [List.getElem?_cons_zero, List.getElem?_cons_succ] at q0 q1 q2
    clear d1 d2 d3
    go_quiet (fail)
    generalize rf + N = c at HCC ⊢
    clear q0 q1 q2
    have HBQ := hid (below_drewN' HBW.out nq)
    have HNQ := hid (HNW.out.drewN nq)
    generalize W.drewN nq = W2 at HBQ HNQ ⊢
    have HK := hid (fun w => (show Calls Try.prog 15 #[.int .i64 c] w fun e w' => e = .returned (.bool true) ∧ Below w.heap.size w w' by have h := HCC.out; rw [HL.out] at h; have := ucdAssigned c w; rw [← hasS_t h.1, h.2.2] at this; exact this))
    go_wp2_with (first
      | (go_at_call 15; refine (HK.out _).mono ?_; rintro e w4 ⟨rfl, hb4⟩; have HB4 := hid (HBQ.out.trans (hb4.mono HBQ.out.size)); clear hb4)
      | (go_at_call 30; refine (lawWakes6 _).mono ?_; rintro e w5 ⟨rfl, hb5⟩; have HB5 := hid (HB4.out.trans (hb5.mono HB4.out.size)); clear hb5))
    go_ret
    exact ⟨rfl, HB5.out⟩
  · have hMM := HMM.out
    go_upto_region 11 with (go_at_call 33; refine (apiNothing _).mono ?_; rintro e wx ⟨vx, rfl, hs2, hb2⟩; have HSX := hid hs2; have HBX := hid (HB1.out.trans (hb2.mono HB1.out.size)); clear hs2 hb2)
    clear HS1 HB1
    obtain ⟨ax, cx, hvx⟩ := HSX.out.form
    have hll : 0 < tabNothing.length ∧ tabNothing.length ≤ 1000 := by decide
    obtain ⟨_, _, hax, _, _, hcell⟩ := HSX.out
    rw [hvx] at hax
    injection hax with hax1 _ hax2
    subst hax1 hax2
    obtain ⟨l, hl⟩ : ∃ l, l = tabNothing := ⟨_, rfl⟩
    have hgood := HT2.out
    rw [← hl] at hvx hll hcell hgood
    have HL := hid hl
    obtain ⟨m, hm⟩ : ∃ m, m = l.length := ⟨_, rfl⟩
    rw [← hm] at hvx hll hcell
    subst hvx
    obtain ⟨l0, l1⟩ := hll
    have hne : ((m : Int) == 0) = false := beq_eq_false_iff_ne.2 (by omega)
    have hnz : ¬ (m : Int) = 0 := by omega
    have hum := u64_same (m : Int) (by omega) (by omega)
    obtain ⟨x0, x1⟩ := ixr at_ (m : Int) (by omega) (by omega)
    obtain ⟨K, hK⟩ : ∃ K : Nat, wrap64 ((IntKind.u64.wrap at_).tmod (m : Int)) = (K : Int) := ⟨(wrap64 ((IntKind.u64.wrap at_).tmod (m : Int))).toNat, by omega⟩
    rw [hK] at x0 x1
    have hkm : K < m := by omega
    rcases hcell with hcell | ⟨bx, ox, rfl, hbx, hcell⟩
    · obtain ⟨_, _, hq1, hq2, _⟩ := HSX.out
      injection hq1 with _ hq3 hq4
      omega
    obtain ⟨d1, d2, d3⟩ := hcell K hkm
    obtain ⟨g0, g1, g2, gc⟩ := good_at hgood (i := K) (by omega)
    clear hcell hbx hgood HSX
    generalize l.getD K noRg = r at d1 d2 d3 g0 g1 g2 gc
    obtain ⟨rf, rt, rv⟩ := r
    simp only at d1 d2 d3 g0 g1 g2 gc
    obtain ⟨D, hD⟩ : ∃ D, D = rt - rf + 1 := ⟨_, rfl⟩
    have hD0 : 0 < D := by omega
    have hD1 : D ≤ 1114112 := by omega
    have hDz : ¬ D = 0 := by omega
    have huD := u64_same D (by omega) (by omega)
    obtain ⟨y0, y1⟩ := ixr2 n D hD0 (by omega)
    obtain ⟨N, hN⟩ : ∃ N, wrap64 ((IntKind.u64.wrap n).tmod D) = N := ⟨_, rfl⟩
    rw [hN] at y0 y1
    have hc1 := gc (rf + N) (by omega) (by omega)
    have HCC := hid hc1
    have hlm := hid hm
    have hD2 := hD.symm
    have yb : N ≤ 1114111 := by omega
    have HY := hid y1
    clear hl hm gc hc1 hD y1
    go_upto_region 14 with (fail)
    have HBW := hid (show Below w.heap.size w (wx.alloc (.cells #[.int .i64 rf, .int .i64 rt, .int .i64 rv] 37)) from HBX.out.alloc HBX.out.size _)
    have HNW := hid (Box.made wx 37 [.int .i64 rf, .int .i64 rt, .int .i64 rv])
    generalize wx.alloc (.cells #[.int .i64 rf, .int .i64 rt, .int .i64 rv] 37) = W at HBW HNW ⊢
    have HNW : Hid (Box 37 [.int .i64 rf, .int .i64 rt, .int .i64 rv] wx.heap.size W) := HNW
    have q0 := HNW.out.cell 0
    have q1 := HNW.out.cell 1
    have q2 := HNW.out.cell 2
    simp only [List.getElem?_cons_zero, List.getElem?_cons_succ] at q0 q1 q2
    clear d1 d2 d3
    go_quiet (fail)
    generalize rf + N = c at HCC ⊢
    clear q0 q1 q2
    have HBQ := hid (below_drewN' HBW.out nq)
    have HNQ := hid (HNW.out.drewN nq)
    generalize W.drewN nq = W2 at HBQ HNQ ⊢
    have HK := hid (fun w => (show Calls Try.prog 17 #[.int .i64 c] w fun e w' => e = .returned (.bool true) ∧ Below w.heap.size w w' by have h := HCC.out; rw [HL.out] at h; have := ucdNothing c w; rw [← hasS_t h.1, h.2.2] at this; exact this))
    go_wp2_with (first
      | (go_at_call 17; refine (HK.out _).mono ?_; rintro e w4 ⟨rfl, hb4⟩; have HB4 := hid (HBQ.out.trans (hb4.mono HBQ.out.size)); clear hb4)
      | (go_at_call 30; refine (lawWakes6 _).mono ?_; rintro e w5 ⟨rfl, hb5⟩; have HB5 := hid (HB4.out.trans (hb5.mono HB4.out.size)); clear hb5))
    go_ret
    exact ⟨rfl, HB5.out⟩
  · have hMM := HMM.out
    go_upto_region 11 with (go_at_call 34; refine (apiSpaces _).mono ?_; rintro e wx ⟨vx, rfl, hs2, hb2⟩; have HSX := hid hs2; have HBX := hid (HB1.out.trans (hb2.mono HB1.out.size)); clear hs2 hb2)
    clear HS1 HB1
    obtain ⟨ax, cx, hvx⟩ := HSX.out.form
    have hll : 0 < tabSpaces.length ∧ tabSpaces.length ≤ 1000 := by decide
    obtain ⟨_, _, hax, _, _, hcell⟩ := HSX.out
    rw [hvx] at hax
    injection hax with hax1 _ hax2
    subst hax1 hax2
    obtain ⟨l, hl⟩ : ∃ l, l = tabSpaces := ⟨_, rfl⟩
    have hgood := HT3.out
    rw [← hl] at hvx hll hcell hgood
    have HL := hid hl
    obtain ⟨m, hm⟩ : ∃ m, m = l.length := ⟨_, rfl⟩
    rw [← hm] at hvx hll hcell
    subst hvx
    obtain ⟨l0, l1⟩ := hll
    have hne : ((m : Int) == 0) = false := beq_eq_false_iff_ne.2 (by omega)
    have hnz : ¬ (m : Int) = 0 := by omega
    have hum := u64_same (m : Int) (by omega) (by omega)
    obtain ⟨x0, x1⟩ := ixr at_ (m : Int) (by omega) (by omega)
    obtain ⟨K, hK⟩ : ∃ K : Nat, wrap64 ((IntKind.u64.wrap at_).tmod (m : Int)) = (K : Int) := ⟨(wrap64 ((IntKind.u64.wrap at_).tmod (m : Int))).toNat, by omega⟩
    rw [hK] at x0 x1
    have hkm : K < m := by omega
    rcases hcell with hcell | ⟨bx, ox, rfl, hbx, hcell⟩
    · obtain ⟨_, _, hq1, hq2, _⟩ := HSX.out
      injection hq1 with _ hq3 hq4
      omega
    obtain ⟨d1, d2, d3⟩ := hcell K hkm
    obtain ⟨g0, g1, g2, gc⟩ := good_at hgood (i := K) (by omega)
    clear hcell hbx hgood HSX
    generalize l.getD K noRg = r at d1 d2 d3 g0 g1 g2 gc
    obtain ⟨rf, rt, rv⟩ := r
    simp only at d1 d2 d3 g0 g1 g2 gc
    obtain ⟨D, hD⟩ : ∃ D, D = rt - rf + 1 := ⟨_, rfl⟩
    have hD0 : 0 < D := by omega
    have hD1 : D ≤ 1114112 := by omega
    have hDz : ¬ D = 0 := by omega
    have huD := u64_same D (by omega) (by omega)
    obtain ⟨y0, y1⟩ := ixr2 n D hD0 (by omega)
    obtain ⟨N, hN⟩ : ∃ N, wrap64 ((IntKind.u64.wrap n).tmod D) = N := ⟨_, rfl⟩
    rw [hN] at y0 y1
    have hc1 := gc (rf + N) (by omega) (by omega)
    have HCC := hid hc1
    have hlm := hid hm
    have hD2 := hD.symm
    have yb : N ≤ 1114111 := by omega
    have HY := hid y1
    clear hl hm gc hc1 hD y1
    go_upto_region 14 with (fail)
    have HBW := hid (show Below w.heap.size w (wx.alloc (.cells #[.int .i64 rf, .int .i64 rt, .int .i64 rv] 37)) from HBX.out.alloc HBX.out.size _)
    have HNW := hid (Box.made wx 37 [.int .i64 rf, .int .i64 rt, .int .i64 rv])
    generalize wx.alloc (.cells #[.int .i64 rf, .int .i64 rt, .int .i64 rv] 37) = W at HBW HNW ⊢
    have HNW : Hid (Box 37 [.int .i64 rf, .int .i64 rt, .int .i64 rv] wx.heap.size W) := HNW
    have q0 := HNW.out.cell 0
    have q1 := HNW.out.cell 1
    have q2 := HNW.out.cell 2
    simp only [List.getElem?_cons_zero, List.getElem?_cons_succ] at q0 q1 q2
    clear d1 d2 d3
    go_quiet (fail)
    generalize rf + N = c at HCC ⊢
    clear q0 q1 q2
    have HBQ := hid (below_drewN' HBW.out nq)
    have HNQ := hid (HNW.out.drewN nq)
    generalize W.drewN nq = W2 at HBQ HNQ ⊢
    have HK := hid (fun w => (show Calls Try.prog 19 #[.int .i64 c] w fun e w' => e = .returned (.bool true) ∧ Below w.heap.size w w' by have h := HCC.out; rw [HL.out] at h; have := ucdSpace c w; rw [← hasS_t h.1, h.2.2] at this; exact this))
    go_wp2_with (first
      | (go_at_call 19; refine (HK.out _).mono ?_; rintro e w4 ⟨rfl, hb4⟩; have HB4 := hid (HBQ.out.trans (hb4.mono HBQ.out.size)); clear hb4)
      | (go_at_call 30; refine (lawWakes6 _).mono ?_; rintro e w5 ⟨rfl, hb5⟩; have HB5 := hid (HB4.out.trans (hb5.mono HB4.out.size)); clear hb5))
    go_ret
    exact ⟨rfl, HB5.out⟩
  · have hMM := HMM.out
    go_upto_region 11 with (go_at_call 35; refine (apiProhibited _).mono ?_; rintro e wx ⟨vx, rfl, hs2, hb2⟩; have HSX := hid hs2; have HBX := hid (HB1.out.trans (hb2.mono HB1.out.size)); clear hs2 hb2)
    clear HS1 HB1
    obtain ⟨ax, cx, hvx⟩ := HSX.out.form
    have hll : 0 < tabProhibited.length ∧ tabProhibited.length ≤ 1000 := by decide
    obtain ⟨_, _, hax, _, _, hcell⟩ := HSX.out
    rw [hvx] at hax
    injection hax with hax1 _ hax2
    subst hax1 hax2
    obtain ⟨l, hl⟩ : ∃ l, l = tabProhibited := ⟨_, rfl⟩
    have hgood := HT4.out
    rw [← hl] at hvx hll hcell hgood
    have HL := hid hl
    obtain ⟨m, hm⟩ : ∃ m, m = l.length := ⟨_, rfl⟩
    rw [← hm] at hvx hll hcell
    subst hvx
    obtain ⟨l0, l1⟩ := hll
    have hne : ((m : Int) == 0) = false := beq_eq_false_iff_ne.2 (by omega)
    have hnz : ¬ (m : Int) = 0 := by omega
    have hum := u64_same (m : Int) (by omega) (by omega)
    obtain ⟨x0, x1⟩ := ixr at_ (m : Int) (by omega) (by omega)
    obtain ⟨K, hK⟩ : ∃ K : Nat, wrap64 ((IntKind.u64.wrap at_).tmod (m : Int)) = (K : Int) := ⟨(wrap64 ((IntKind.u64.wrap at_).tmod (m : Int))).toNat, by omega⟩
    rw [hK] at x0 x1
    have hkm : K < m := by omega
    rcases hcell with hcell | ⟨bx, ox, rfl, hbx, hcell⟩
    · obtain ⟨_, _, hq1, hq2, _⟩ := HSX.out
      injection hq1 with _ hq3 hq4
      omega
    obtain ⟨d1, d2, d3⟩ := hcell K hkm
    obtain ⟨g0, g1, g2, gc⟩ := good_at hgood (i := K) (by omega)
    clear hcell hbx hgood HSX
    generalize l.getD K noRg = r at d1 d2 d3 g0 g1 g2 gc
    obtain ⟨rf, rt, rv⟩ := r
    simp only at d1 d2 d3 g0 g1 g2 gc
    obtain ⟨D, hD⟩ : ∃ D, D = rt - rf + 1 := ⟨_, rfl⟩
    have hD0 : 0 < D := by omega
    have hD1 : D ≤ 1114112 := by omega
    have hDz : ¬ D = 0 := by omega
    have huD := u64_same D (by omega) (by omega)
    obtain ⟨y0, y1⟩ := ixr2 n D hD0 (by omega)
    obtain ⟨N, hN⟩ : ∃ N, wrap64 ((IntKind.u64.wrap n).tmod D) = N := ⟨_, rfl⟩
    rw [hN] at y0 y1
    have hc1 := gc (rf + N) (by omega) (by omega)
    have HCC := hid hc1
    have hlm := hid hm
    have hD2 := hD.symm
    have yb : N ≤ 1114111 := by omega
    have HY := hid y1
    clear hl hm gc hc1 hD y1
    go_upto_region 14 with (fail)
    have HBW := hid (show Below w.heap.size w (wx.alloc (.cells #[.int .i64 rf, .int .i64 rt, .int .i64 rv] 37)) from HBX.out.alloc HBX.out.size _)
    have HNW := hid (Box.made wx 37 [.int .i64 rf, .int .i64 rt, .int .i64 rv])
    generalize wx.alloc (.cells #[.int .i64 rf, .int .i64 rt, .int .i64 rv] 37) = W at HBW HNW ⊢
    have HNW : Hid (Box 37 [.int .i64 rf, .int .i64 rt, .int .i64 rv] wx.heap.size W) := HNW
    have q0 := HNW.out.cell 0
    have q1 := HNW.out.cell 1
    have q2 := HNW.out.cell 2
    simp only [List.getElem?_cons_zero, List.getElem?_cons_succ] at q0 q1 q2
    clear d1 d2 d3
    go_quiet (fail)
    generalize rf + N = c at HCC ⊢
    clear q0 q1 q2
    have HBQ := hid (below_drewN' HBW.out nq)
    have HNQ := hid (HNW.out.drewN nq)
    generalize W.drewN nq = W2 at HBQ HNQ ⊢
    have HK := hid (fun w => (show Calls Try.prog 21 #[.int .i64 c] w fun e w' => e = .returned (.bool true) ∧ Below w.heap.size w w' by have h := HCC.out; rw [HL.out] at h; have := ucdProhibited c w; rw [← hasS_t h.1, h.2.2] at this; exact this))
    go_wp2_with (first
      | (go_at_call 21; refine (HK.out _).mono ?_; rintro e w4 ⟨rfl, hb4⟩; have HB4 := hid (HBQ.out.trans (hb4.mono HBQ.out.size)); clear hb4)
      | (go_at_call 30; refine (lawWakes6 _).mono ?_; rintro e w5 ⟨rfl, hb5⟩; have HB5 := hid (HB4.out.trans (hb5.mono HB4.out.size)); clear hb5))
    go_ret
    exact ⟨rfl, HB5.out⟩
end Go.Proofs.Ytpdcmfnemfopjaa
