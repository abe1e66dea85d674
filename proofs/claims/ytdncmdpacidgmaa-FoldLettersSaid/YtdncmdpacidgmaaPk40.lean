/- Several texts in one: Cmp10f. -/
import Derived.Test.YtdncmdpacidgmaaPk39
/-! Cmp10f -/
namespace Go.Proofs.Ytdncmdpacidgmaa
open Go.RowKit Go.Shelf

theorem box_grow {base : Nat} {w w' : World} {v : Value} {xs : List Int} {cs : List Value} {B : Nat} (hb : Box 83 cs B w) (h : Own .i64 3 base w v xs) (hg : w.grownBy w' v.ownBlock) : Box 83 cs B w' :=
  hb.grown h hg (by decide)
/-- c is appended: a new starter -/
theorem compI_new {n0 B M : Nat} {q : Cp} {w w' : World} {c la : Int} {v : Value} (h : CompI n0 B M q w) (hm : w'.heap[M]? = w.heap[M]?) (hb : Box 83 [v, .int .i64 (q.out.length : Int), .int .i64 la, .map (some M)] B w') (ho : Own .i64 3 n0 w' v (q.out ++ [c])) (hc : inI c = true) :
    CompI n0 B M ⟨q.out, some c, []⟩ w' :=
  ⟨⟨v, la, hb, ho, (fun y hy => by cases hy)⟩, h.map.same hm, h.hB, h.hM, (fun y hy => by cases hy), (by rw [out_new, List.all_append, h.all]; simp [hc])⟩
/-- c is appended: a mark -/
theorem compI_add {n0 B M : Nat} {q : Cp} {w w' : World} {c : Int} {v : Value} (h : CompI n0 B M q w) (hm : w'.heap[M]? = w.heap[M]?) (hb : Box 83 [v, .int .i64 (stOf q), .int .i64 (classS c), .map (some M)] B w') (ho : Own .i64 3 n0 w' v (q.out ++ [c])) (hc : inI c = true) (hz : classS c ≠ 0) :
    CompI n0 B M ⟨q.p, q.s, q.m ++ [c]⟩ w' :=
  ⟨⟨v, classS c, hb, by rw [out_add]; exact ho, fun y hy => by rw [List.getLast?_append] at hy; simp at hy; rw [← hy]⟩, h.map.same hm, h.hB, h.hM, fun y hy => by
    rcases List.mem_append.1 hy with hy | hy
    · exact h.nz y hy
    · obtain rfl : y = c := by simpa using hy
      exact hz, by rw [out_add, List.all_append, h.all]; simp [hc]⟩
/-- c makes one with the starter -/
theorem compI_join {n0 B M : Nat} {q : Cp} {w w' : World} {S c' la : Int} {v : Value} (h : CompI n0 B M q w) (hs : q.s = some S) (hm : w'.heap[M]? = w.heap[M]?) (hb : Box 83 [v, .int .i64 (q.p.length : Int), .int .i64 la, .map (some M)] B w') (ho : Own .i64 3 n0 w' v (q.out.set q.p.length c')) (hc : inI c' = true) (hla : ∀ y, q.m.getLast? = some y → la = classS y) :
    CompI n0 B M ⟨q.p, some c', q.m⟩ w' := by
  have e : (⟨q.p, some c', q.m⟩ : Cp).out = q.out.set q.p.length c' := by
    unfold Cp.out
    rw [hs]
    simp
  refine ⟨⟨v, la, hb, by rw [e]; exact ho, hla⟩, h.map.same hm, h.hB, h.hM, h.nz, ?_⟩
  have := h.all
  unfold Cp.out at this ⊢
  rw [hs] at this
  simp only [Option.toList_some, List.all_append, List.all_cons, List.all_nil, Bool.and_true, Bool.and_eq_true] at this ⊢
  exact ⟨this.1, hc, this.2.2⟩
theorem map_set {W : World} {t : TypeId} {cs : List Value} {B M : Nat} {L : List Rg} (hm : MapC L M W) (hb : Box t cs B W) (j : Nat) (v : Value) : (W.setCell ⟨B, j, none⟩ v).heap[M]? = W.heap[M]? :=
  Below.heap_setCell _ _ _ _ (fun e => hm.nobox hb e.symm)

set_option maxRecDepth 10000 in
set_option maxHeartbeats 4000000 in
theorem cmpAdd (n0 B M : Nat) (q : Cp) (c : Int) (w : World) (h : CompI n0 B M q w) (hn0 : n0 ≤ w.heap.size) (hi : inI c = true) (hlen : q.out.length < 1000000) :
    Calls Try.prog 44 #[.pointer (some ⟨B, 0, none⟩), .int .i64 c] w fun e w' => e = .returned (.tuple #[]) ∧ CompI n0 B M (stepG classS twoS q c) w' ∧ Below n0 w w' := by
  have HI := hid hi
  have HK := hid (ucdClass c w)
  obtain ⟨cl, hcl⟩ : ∃ x, x = classS c := ⟨_, rfl⟩
  rw [← hcl] at HK
  have HCL := hid hcl
  obtain ⟨n, hn⟩ : ∃ n, n = q.out.length := ⟨_, rfl⟩
  have HN := hid hn
  rw [← hn] at hlen
  obtain ⟨n1, hn1⟩ : ∃ n1, n1 = (q.out ++ [c]).length := ⟨_, rfl⟩
  have HN1 := hid hn1
  clear hn1
  have HH := hid h
  obtain ⟨⟨vz, lz, hbz, hoz, hlz⟩, hmz, -, -, hnzz, hallz⟩ := h
  obtain ⟨az, cz, hvz⟩ := hoz.sl.form
  rw [← hn] at hvz
  subst hvz
  have HXZ := hid hbz
  have HLZ := hid hlz
  have HMZ := hid hmz
  have HOZ := hid hoz
  clear hlz hmz hoz hi hcl hn
  cases hs : q.s with
  | none =>
    have hst : stOf q = -1 := by unfold stOf; rw [hs]
    have HST := hid hst
    have HNO := hid (show ∀ S, q.s = some S → ((twoS S c).2 && !offG classS q.m c) = false from fun S h => by rw [hs] at h; cases h)
    clear hs hbz hst HXZ
    by_cases hz : cl = 0
    · have e1 : (cl == 0) = true := by rw [hz]; rfl
      have HZ := hid hz
      clear hz
      go_enter Try.func44, Try.ntmps44
      go_wp2_with (first
        | (go_at_call 54; refine HK.out.mono ?_; rintro e wx ⟨rfl, hb1⟩; have HC := hid (HH.out.below hb1); have HBX := hid (hb1.mono hn0); clear hb1; obtain ⟨⟨vl, la, hbx, hown, hla⟩, hmp, hB0, hM0, hnz, hal⟩ := HC.out; rw [HST.out] at hbx; obtain ⟨al, cp, hvl⟩ := hown.sl.form; rw [← HN.out] at hvl; subst hvl; have HX := hid hbx; have HO := hid hown; have HMP := hid hmp; have HB0 := hid hB0; have x0 := hbx.cell 0; have x1 := hbx.cell 1; have x2 := hbx.cell 2; have f0 := hbx.ice 0; have f1 := hbx.ice 1; have f2 := hbx.ice 2; have HBS := hid hbx.lt; simp only [List.getElem?_cons_zero, List.getElem?_cons_succ] at x0 x1 x2; have HNB := hid (Nat.le_trans hB0 (Nat.le_of_lt hbx.lt)); have HXS := hid (HX.out.set 1 (.int .i64 (n : Int))); have HOS := hid (HO.out.set HX.out (by decide) 1 (.int .i64 (n : Int))); simp only [List.set_cons_succ, List.set_cons_zero] at HXS; clear hbx hown hla hmp hnz hal hB0)
        | (at_builtin; go_loud (refine wpList_app _ rfl _ _ 22 rfl .i64 n0 3 8 Try.underlying22 Try.infoI64 _ q.out [c] rfl (HOS.out.alloc (.cells #[.int .i64 c] 3)) _ rfl (one_sl (by first | simp | rfl)) (by have := HN.out; unfold maxLen; simp; omega) (by have := HN.out; simp; omega) (by have := HNB.out; simp; omega) ?_); intro v6 w6 ho6 hg6 hb6 hn6; obtain ⟨a6, c6, hv6⟩ := ho6.sl.form; rw [← HN1.out] at hv6; subst hv6; have HO6 := hid ho6; have HM6 : Hid (w6.heap[M]? = wx.heap[M]?) := hid ((hg6.block M (by have := HMP.out.lt; simp; omega) (own_nomap HO.out HMP.out)).trans ((Below.heap_alloc _ _ _ (by have := HMP.out.lt; simp; omega)).trans (map_set HMP.out HX.out 1 (.int .i64 (n : Int))))); have HX6 := hid (box_grow (HXS.out.alloc (.cells #[.int .i64 c] 3)) (HOS.out.alloc (.cells #[.int .i64 c] 3)) hg6); have HB6 : Hid (Below n0 wx w6) := hid (Below.trans (show Below n0 wx _ from ((Below.refl n0 wx).setCell HB0.out _).alloc (by have := HNB.out; simp; omega) _) hb6); have y0 := HX6.out.cell 0; have y1 := HX6.out.cell 1; have y2 := HX6.out.cell 2; have g0 := HX6.out.ice 0; have g1 := HX6.out.ice 1; have g2 := HX6.out.ice 2; simp only [List.getElem?_cons_zero, List.getElem?_cons_succ] at y0 y1 y2; clear ho6 hg6 hb6 hn6))
      go_end0
      have k1 := HX6.out.set 0 (.slice a6 n1 c6)
      have k2 := k1.set 2 (.int .i64 cl)
      have HM6' := HMP.out.same HM6.out
      have m1 := map_set HM6' HX6.out 0 (.slice a6 n1 c6)
      have m2 := map_set (HM6'.same m1) k1 2 (.int .i64 cl)
      simp only [List.set_cons_succ, List.set_cons_zero] at k1 k2
      refine ⟨rfl, ?_, ((HBX.out.trans HB6.out).setCell HB0.out _).setCell HB0.out _⟩
      rw [HN.out] at k2
      rw [step_new (by rw [← HCL.out]; exact HZ.out) HNO.out]
      exact compI_new HC.out ((m2.trans m1).trans HM6.out) k2 ((HO6.out.set HX6.out (by decide) 0 (.slice a6 n1 c6)).set k1 (by decide) 2 _) HI.out
    · have e1 : (cl == 0) = false := by simpa using hz
      have HZ := hid hz
      clear hz
      go_enter Try.func44, Try.ntmps44
      go_wp2_with (first
        | (go_at_call 54; refine HK.out.mono ?_; rintro e wx ⟨rfl, hb1⟩; have HC := hid (HH.out.below hb1); have HBX := hid (hb1.mono hn0); clear hb1; obtain ⟨⟨vl, la, hbx, hown, hla⟩, hmp, hB0, hM0, hnz, hal⟩ := HC.out; rw [HST.out] at hbx; obtain ⟨al, cp, hvl⟩ := hown.sl.form; rw [← HN.out] at hvl; subst hvl; have HX := hid hbx; have HO := hid hown; have HMP := hid hmp; have HB0 := hid hB0; have x0 := hbx.cell 0; have x1 := hbx.cell 1; have x2 := hbx.cell 2; have f0 := hbx.ice 0; have f1 := hbx.ice 1; have f2 := hbx.ice 2; have HBS := hid hbx.lt; simp only [List.getElem?_cons_zero, List.getElem?_cons_succ] at x0 x1 x2; have HNB := hid (Nat.le_trans hB0 (Nat.le_of_lt hbx.lt)); have HXS := hid (HX.out.set 1 (.int .i64 (n : Int))); have HOS := hid (HO.out.set HX.out (by decide) 1 (.int .i64 (n : Int))); simp only [List.set_cons_succ, List.set_cons_zero] at HXS; clear hbx hown hla hmp hnz hal hB0)
        | (at_builtin; go_loud (refine wpList_app _ rfl _ _ 22 rfl .i64 n0 3 8 Try.underlying22 Try.infoI64 _ q.out [c] rfl (HO.out.alloc (.cells #[.int .i64 c] 3)) _ rfl (one_sl (by first | simp | rfl)) (by have := HN.out; unfold maxLen; simp; omega) (by have := HN.out; simp; omega) (by have := HNB.out; simp; omega) ?_); intro v6 w6 ho6 hg6 hb6 hn6; obtain ⟨a6, c6, hv6⟩ := ho6.sl.form; rw [← HN1.out] at hv6; subst hv6; have HO6 := hid ho6; have HM6 : Hid (w6.heap[M]? = wx.heap[M]?) := hid ((hg6.block M (by have := HMP.out.lt; simp; omega) (own_nomap HO.out HMP.out)).trans (Below.heap_alloc _ _ _ HMP.out.lt)); have HX6 := hid (box_grow (HX.out.alloc (.cells #[.int .i64 c] 3)) (HO.out.alloc (.cells #[.int .i64 c] 3)) hg6); have HB6 : Hid (Below n0 wx w6) := hid (Below.trans (show Below n0 wx _ from (Below.refl n0 wx).alloc HNB.out _) hb6); have y0 := HX6.out.cell 0; have y1 := HX6.out.cell 1; have y2 := HX6.out.cell 2; have g0 := HX6.out.ice 0; have g1 := HX6.out.ice 1; have g2 := HX6.out.ice 2; simp only [List.getElem?_cons_zero, List.getElem?_cons_succ] at y0 y1 y2; clear ho6 hg6 hb6 hn6))
      go_end0
      have k1 := HX6.out.set 0 (.slice a6 n1 c6)
      have k2 := k1.set 2 (.int .i64 cl)
      have HM6' := HMP.out.same HM6.out
      have m1 := map_set HM6' HX6.out 0 (.slice a6 n1 c6)
      have m2 := map_set (HM6'.same m1) k1 2 (.int .i64 cl)
      simp only [List.set_cons_succ, List.set_cons_zero] at k1 k2
      refine ⟨rfl, ?_, ((HBX.out.trans HB6.out).setCell HB0.out _).setCell HB0.out _⟩
      rw [step_add (by rw [← HCL.out]; exact HZ.out) HNO.out]
      exact compI_add HC.out ((m2.trans m1).trans HM6.out) (by rw [HST.out, ← HCL.out]; exact k2) ((HO6.out.set HX6.out (by decide) 0 (.slice a6 n1 c6)).set k1 (by decide) 2 _) HI.out (by rw [← HCL.out]; exact HZ.out)
  | some S =>
    obtain ⟨p, hp⟩ : ∃ p, p = q.p.length := ⟨_, rfl⟩
    have hst : stOf q = (p : Int) := by unfold stOf; rw [hs, hp]
    have HST := hid hst
    have HS := hid hs
    have HP := hid hp
    have hpn : p < n := by have := HN.out; unfold Cp.out at this; rw [hs] at this; simp at this; omega
    have HIS : Hid (inI S = true) := hid (by unfold Cp.out at hallz; rw [hs] at hallz; simp only [Option.toList_some, List.all_append, List.all_cons, Bool.and_eq_true] at hallz; exact hallz.2.1.1)
    obtain ⟨r, hr⟩ : ∃ r, r = offG classS q.m c := ⟨_, rfl⟩
    have HOFF := hid (show r = (decide ((p : Int) < (n : Int) - 1) && decide (cl ≤ lz)) by rw [hr, off_fields hs hnzz HLZ.out, hst, HN.out, HCL.out])
    rw [hst] at HXZ
    clear hbz hst hp hallz hnzz
    cases r with
    | true =>
      have HNO := hid (show ∀ S, q.s = some S → ((twoS S c).2 && !offG classS q.m c) = false from fun S _ => by rw [← hr]; simp)
      clear hs hr
      by_cases hz : cl = 0
      · have e1 : (cl == 0) = true := by rw [hz]; rfl
        have HZ := hid hz
        clear hz
        go_enter Try.func44, Try.ntmps44
        go_wp2_with (first
          | (go_at_call 55; refine (cmpBlocks B n cz az (p : Int) lz cl (.map (some M)) w1 HB1.out (by omega) _ HOFF.out).mono ?_; rintro e wx ⟨rfl, hb2⟩; have HC := hid (HC1.out.below hb2); have HBX := hid (HBX1.out.trans (hb2.mono (Nat.le_trans hn0 HB11.out.size))); clear hb2; obtain ⟨⟨vl, la, hbx, hown, hla⟩, hmp, hB0, hM0, hnz, hal⟩ := HC.out; rw [HST.out] at hbx; obtain ⟨al, cp, hvl⟩ := hown.sl.form; rw [← HN.out] at hvl; subst hvl; have HX := hid hbx; have HO := hid hown; have HMP := hid hmp; have HB0 := hid hB0; have x0 := hbx.cell 0; have x1 := hbx.cell 1; have x2 := hbx.cell 2; have f0 := hbx.ice 0; have f1 := hbx.ice 1; have f2 := hbx.ice 2; have HBS := hid hbx.lt; simp only [List.getElem?_cons_zero, List.getElem?_cons_succ] at x0 x1 x2; have HNB := hid (Nat.le_trans hB0 (Nat.le_of_lt hbx.lt)); have HXS := hid (HX.out.set 1 (.int .i64 (n : Int))); have HOS := hid (HO.out.set HX.out (by decide) 1 (.int .i64 (n : Int))); simp only [List.set_cons_succ, List.set_cons_zero] at HXS; clear hbx hown hla hmp hnz hal hB0)
          | (go_at_call 54; refine HK.out.mono ?_; rintro e w1 ⟨rfl, hb1⟩; have HB11 := hid hb1; have HC1 := hid (HH.out.below hb1); have HBX1 := hid (hb1.mono hn0); have HB1 := hid (HXZ.out.below hb1 HXZ.out.lt); have z1 := HB1.out.cell 1; simp only [List.getElem?_cons_zero, List.getElem?_cons_succ] at z1; clear hb1)
          | (at_builtin; go_loud (refine wpList_app _ rfl _ _ 22 rfl .i64 n0 3 8 Try.underlying22 Try.infoI64 _ q.out [c] rfl (HOS.out.alloc (.cells #[.int .i64 c] 3)) _ rfl (one_sl (by first | simp | rfl)) (by have := HN.out; unfold maxLen; simp; omega) (by have := HN.out; simp; omega) (by have := HNB.out; simp; omega) ?_); intro v6 w6 ho6 hg6 hb6 hn6; obtain ⟨a6, c6, hv6⟩ := ho6.sl.form; rw [← HN1.out] at hv6; subst hv6; have HO6 := hid ho6; have HM6 : Hid (w6.heap[M]? = wx.heap[M]?) := hid ((hg6.block M (by have := HMP.out.lt; simp; omega) (own_nomap HO.out HMP.out)).trans ((Below.heap_alloc _ _ _ (by have := HMP.out.lt; simp; omega)).trans (map_set HMP.out HX.out 1 (.int .i64 (n : Int))))); have HX6 := hid (box_grow (HXS.out.alloc (.cells #[.int .i64 c] 3)) (HOS.out.alloc (.cells #[.int .i64 c] 3)) hg6); have HB6 : Hid (Below n0 wx w6) := hid (Below.trans (show Below n0 wx _ from ((Below.refl n0 wx).setCell HB0.out _).alloc (by have := HNB.out; simp; omega) _) hb6); have y0 := HX6.out.cell 0; have y1 := HX6.out.cell 1; have y2 := HX6.out.cell 2; have g0 := HX6.out.ice 0; have g1 := HX6.out.ice 1; have g2 := HX6.out.ice 2; simp only [List.getElem?_cons_zero, List.getElem?_cons_succ] at y0 y1 y2; clear ho6 hg6 hb6 hn6))
        go_end0
        have k1 := HX6.out.set 0 (.slice a6 n1 c6)
        have k2 := k1.set 2 (.int .i64 cl)
        have HM6' := HMP.out.same HM6.out
        have m1 := map_set HM6' HX6.out 0 (.slice a6 n1 c6)
        have m2 := map_set (HM6'.same m1) k1 2 (.int .i64 cl)
        simp only [List.set_cons_succ, List.set_cons_zero] at k1 k2
        refine ⟨rfl, ?_, ((HBX.out.trans HB6.out).setCell HB0.out _).setCell HB0.out _⟩
        rw [HN.out] at k2
        rw [step_new (by rw [← HCL.out]; exact HZ.out) HNO.out]
        exact compI_new HC.out ((m2.trans m1).trans HM6.out) k2 ((HO6.out.set HX6.out (by decide) 0 (.slice a6 n1 c6)).set k1 (by decide) 2 _) HI.out
      · have e1 : (cl == 0) = false := by simpa using hz
        have HZ := hid hz
        clear hz
        go_enter Try.func44, Try.ntmps44
        go_wp2_with (first
          | (go_at_call 55; refine (cmpBlocks B n cz az (p : Int) lz cl (.map (some M)) w1 HB1.out (by omega) _ HOFF.out).mono ?_; rintro e wx ⟨rfl, hb2⟩; have HC := hid (HC1.out.below hb2); have HBX := hid (HBX1.out.trans (hb2.mono (Nat.le_trans hn0 HB11.out.size))); clear hb2; obtain ⟨⟨vl, la, hbx, hown, hla⟩, hmp, hB0, hM0, hnz, hal⟩ := HC.out; rw [HST.out] at hbx; obtain ⟨al, cp, hvl⟩ := hown.sl.form; rw [← HN.out] at hvl; subst hvl; have HX := hid hbx; have HO := hid hown; have HMP := hid hmp; have HB0 := hid hB0; have x0 := hbx.cell 0; have x1 := hbx.cell 1; have x2 := hbx.cell 2; have f0 := hbx.ice 0; have f1 := hbx.ice 1; have f2 := hbx.ice 2; have HBS := hid hbx.lt; simp only [List.getElem?_cons_zero, List.getElem?_cons_succ] at x0 x1 x2; have HNB := hid (Nat.le_trans hB0 (Nat.le_of_lt hbx.lt)); have HXS := hid (HX.out.set 1 (.int .i64 (n : Int))); have HOS := hid (HO.out.set HX.out (by decide) 1 (.int .i64 (n : Int))); simp only [List.set_cons_succ, List.set_cons_zero] at HXS; clear hbx hown hla hmp hnz hal hB0)
          | (go_at_call 54; refine HK.out.mono ?_; rintro e w1 ⟨rfl, hb1⟩; have HB11 := hid hb1; have HC1 := hid (HH.out.below hb1); have HBX1 := hid (hb1.mono hn0); have HB1 := hid (HXZ.out.below hb1 HXZ.out.lt); have z1 := HB1.out.cell 1; simp only [List.getElem?_cons_zero, List.getElem?_cons_succ] at z1; clear hb1)
          | (at_builtin; go_loud (refine wpList_app _ rfl _ _ 22 rfl .i64 n0 3 8 Try.underlying22 Try.infoI64 _ q.out [c] rfl (HO.out.alloc (.cells #[.int .i64 c] 3)) _ rfl (one_sl (by first | simp | rfl)) (by have := HN.out; unfold maxLen; simp; omega) (by have := HN.out; simp; omega) (by have := HNB.out; simp; omega) ?_); intro v6 w6 ho6 hg6 hb6 hn6; obtain ⟨a6, c6, hv6⟩ := ho6.sl.form; rw [← HN1.out] at hv6; subst hv6; have HO6 := hid ho6; have HM6 : Hid (w6.heap[M]? = wx.heap[M]?) := hid ((hg6.block M (by have := HMP.out.lt; simp; omega) (own_nomap HO.out HMP.out)).trans (Below.heap_alloc _ _ _ HMP.out.lt)); have HX6 := hid (box_grow (HX.out.alloc (.cells #[.int .i64 c] 3)) (HO.out.alloc (.cells #[.int .i64 c] 3)) hg6); have HB6 : Hid (Below n0 wx w6) := hid (Below.trans (show Below n0 wx _ from (Below.refl n0 wx).alloc HNB.out _) hb6); have y0 := HX6.out.cell 0; have y1 := HX6.out.cell 1; have y2 := HX6.out.cell 2; have g0 := HX6.out.ice 0; have g1 := HX6.out.ice 1; have g2 := HX6.out.ice 2; simp only [List.getElem?_cons_zero, List.getElem?_cons_succ] at y0 y1 y2; clear ho6 hg6 hb6 hn6))
        go_end0
        have k1 := HX6.out.set 0 (.slice a6 n1 c6)
        have k2 := k1.set 2 (.int .i64 cl)
        have HM6' := HMP.out.same HM6.out
        have m1 := map_set HM6' HX6.out 0 (.slice a6 n1 c6)
        have m2 := map_set (HM6'.same m1) k1 2 (.int .i64 cl)
        simp only [List.set_cons_succ, List.set_cons_zero] at k1 k2
        refine ⟨rfl, ?_, ((HBX.out.trans HB6.out).setCell HB0.out _).setCell HB0.out _⟩
        rw [step_add (by rw [← HCL.out]; exact HZ.out) HNO.out]
        exact compI_add HC.out ((m2.trans m1).trans HM6.out) (by rw [HST.out, ← HCL.out]; exact k2) ((HO6.out.set HX6.out (by decide) 0 (.slice a6 n1 c6)).set k1 (by decide) 2 _) HI.out (by rw [← HCL.out]; exact HZ.out)
    | false =>
      obtain ⟨T, hT⟩ : ∃ x, x = twoS S c := ⟨_, rfl⟩
      have HT := hid hT
      have HTW := hid (fun (wx : World) (u : LaterC wx M) => laterC_two S c HIS.out HI.out u)
      rw [← hT] at HTW
      clear hT
      obtain ⟨c', k⟩ := T
      cases k with
      | true =>
        have HOF := hid hr.symm
        clear hr
        go_enter Try.func44, Try.ntmps44
        go_wp2_with (first
          | (go_at_call 55; refine (cmpBlocks B n cz az (p : Int) lz cl (.map (some M)) w1 HB1.out (by omega) _ HOFF.out).mono ?_; rintro e wx ⟨rfl, hb2⟩; have HC := hid (HC1.out.below hb2); have HBX := hid (HBX1.out.trans (hb2.mono (Nat.le_trans hn0 HB11.out.size))); clear hb2)
          | (go_at_call 54; refine HK.out.mono ?_; rintro e w1 ⟨rfl, hb1⟩; have HB11 := hid hb1; have HC1 := hid (HH.out.below hb1); have HBX1 := hid (hb1.mono hn0); have HB1 := hid (HXZ.out.below hb1 HXZ.out.lt); have z1 := HB1.out.cell 1; simp only [List.getElem?_cons_zero, List.getElem?_cons_succ] at z1; clear hb1))
        obtain ⟨⟨vy, ly, hby, hoy, -⟩, hmy, -, -, -, -⟩ := HC.out
        rw [HST.out] at hby
        obtain ⟨gy, cy, hvy, hgy, -⟩ := World.ownsRow.form hoy (by rw [← HN.out]; omega)
        rw [← HN.out] at hvy
        subst hvy
        obtain ⟨rest, hrow, -, -, -, -⟩ := RowI.of_own hoy
        have e0 := hrow.at (i := p) (by rw [← HN.out]; exact hpn)
        have eS : q.out.getD p 0 = S := by unfold Cp.out; rw [HS.out, HP.out]; simp
        rw [eS] at e0
        have hgM : gy ≠ M := fun e => by have := own_nomap hoy hmy; simp [Value.ownBlock] at this; exact this e.symm
        have hBM : B ≠ M := hmy.nobox hby
        have y0 := hby.cell 0
        have y1 := hby.cell 1
        have y3 := hby.cell 3
        simp only [List.getElem?_cons_zero, List.getElem?_cons_succ] at y0 y1 y3
        have r0 := fun u : LaterC wx M => u.cell y0 hBM
        have r1 := fun u : LaterC wx M => u.cell y1 hBM
        have r3 := fun u : LaterC wx M => u.cell y3 hBM
        have r4 := fun u : LaterC wx M => u.cell e0 hgM
        have hpi : (p : Int) < (n : Int) := by omega
        have HTX := hid (HTW.out wx)
        have HMY := hid hmy
        clear y0 y1 y3 e0 hby hoy hmy eS hrow
        have hne : Nonempty (LaterC wx M) := ⟨⟨wx, grown_below (Below.refl _ _) _, HMY.out⟩⟩
        refine region_laterC (by kernel_rfl) (by kernel_rfl) HMY.out ?_
        repeat (go_big_quiet_step (first | (go_at_call 56; with_reducible exact HTX.out _)))
        refine wpQuiet_nil ?_
        intro _ hw'
        obtain ⟨u, hw''⟩ := hw'
        subst hw''
        have HC2 := hid (HC.out.turn u.grown u.map)
        have HBX2 : Hid (Below n0 w u.w) := hid (HBX.out.grown u.grown (Nat.le_trans hn0 HBX.out.size) (fun r e => by injection e with e; have := HC.out.hM; omega))
        clear hne r0 r1 r3 r4 HTX HMY HC HBX hgM hBM
        generalize u.w = wx at HC2 HBX2 ⊢
        have HC := HC2
        have HBX := HBX2
        clear HC2 HBX2
        obtain ⟨⟨vy, ly, hby, hoy, hly⟩, hmy, hB0, -, -, -⟩ := HC.out
        rw [HST.out] at hby
        obtain ⟨g, cy, hvy, hgy, -⟩ := World.ownsRow.form hoy (by rw [← HN.out]; omega)
        rw [← HN.out] at hvy
        subst hvy
        obtain ⟨rest, hrow, hg0, -, hcap, hcm⟩ := RowI.of_own hoy
        have hpl : p < q.out.length := by rw [← HN.out]; exact hpn
        have e0 := hrow.at (i := p) hpl
        have e1 := hrow.at0 (i := p) hpl
        have fe := hrow.ice p
        have ho2 := (hrow.set (i := p) hpl c').own (base := n0) (cap := cy) hg0 (by rw [List.length_set, ← HN.out]; exact hcap) hcm
        rw [List.length_set, ← HN.out] at ho2
        have HO2 := hid ho2
        have hgM : g ≠ M := fun e => by have := own_nomap hoy hmy; simp [Value.ownBlock] at this; exact this e.symm
        have hgB : g ≠ B := fun e => by have := Own.other hoy hby (by decide); simp [Value.ownBlock] at this; exact this e.symm
        have HBY := hid ((show (wx.setCell ⟨g, p, none⟩ (.int .i64 c')).heap[B]? = wx.heap[B]? from Below.heap_setCell _ _ _ _ (fun e => hgB e.symm)).trans hby)
        have HMY := hid (show (wx.setCell ⟨g, p, none⟩ (.int .i64 c')).heap[M]? = wx.heap[M]? from Below.heap_setCell _ _ _ _ (fun e => hgM e.symm))
        have HLY := hid hly
        have HG0 := hid hg0
        have y0 := hby.cell 0
        have y1 := hby.cell 1
        simp only [List.getElem?_cons_zero, List.getElem?_cons_succ] at y0 y1
        clear hby hoy hmy hly hrow hcap hcm ho2 hgM hgB hg0 hgy
        go_wp2
        go_region
        go_wp2
        (try simp only [Exit.inBlock, Exit.then]); refine bodyPost_ret (results_none rfl _ _ _) rfl ?_
        refine ⟨rfl, ?_, (HBX.out.setCell HG0.out _).drew⟩
        rw [step_join HS.out (by rw [← HT.out]) HOF.out, ← HT.out]
        exact (compI_join HC.out HS.out HMY.out (by rw [← HP.out]; exact HBY.out) (by rw [← HP.out]; exact HO2.out) (by have := two_inI (a := S) (b := c) (by rw [← HT.out]); rwa [← HT.out] at this) HLY.out).below (Below.refl _ _).drew
      | false =>
        have HNO := hid (show ∀ S, q.s = some S → ((twoS S c).2 && !offG classS q.m c) = false from fun S' h => by rw [hs] at h; cases h; rw [← HT.out]; rfl)
        clear hs hr
        go_enter Try.func44, Try.ntmps44
        go_wp2_with (first
          | (go_at_call 55; refine (cmpBlocks B n cz az (p : Int) lz cl (.map (some M)) w1 HB1.out (by omega) _ HOFF.out).mono ?_; rintro e wx ⟨rfl, hb2⟩; have HC := hid (HC1.out.below hb2); have HBX := hid (HBX1.out.trans (hb2.mono (Nat.le_trans hn0 HB11.out.size))); clear hb2)
          | (go_at_call 54; refine HK.out.mono ?_; rintro e w1 ⟨rfl, hb1⟩; have HB11 := hid hb1; have HC1 := hid (HH.out.below hb1); have HBX1 := hid (hb1.mono hn0); have HB1 := hid (HXZ.out.below hb1 HXZ.out.lt); have z1 := HB1.out.cell 1; simp only [List.getElem?_cons_zero, List.getElem?_cons_succ] at z1; clear hb1))
        obtain ⟨⟨vy, ly, hby, hoy, -⟩, hmy, -, -, -, -⟩ := HC.out
        rw [HST.out] at hby
        obtain ⟨gy, cy, hvy, hgy, -⟩ := World.ownsRow.form hoy (by rw [← HN.out]; omega)
        rw [← HN.out] at hvy
        subst hvy
        obtain ⟨rest, hrow, -, -, -, -⟩ := RowI.of_own hoy
        have e0 := hrow.at (i := p) (by rw [← HN.out]; exact hpn)
        have eS : q.out.getD p 0 = S := by unfold Cp.out; rw [HS.out, HP.out]; simp
        rw [eS] at e0
        have hgM : gy ≠ M := fun e => by have := own_nomap hoy hmy; simp [Value.ownBlock] at this; exact this e.symm
        have hBM : B ≠ M := hmy.nobox hby
        have y0 := hby.cell 0
        have y1 := hby.cell 1
        have y3 := hby.cell 3
        simp only [List.getElem?_cons_zero, List.getElem?_cons_succ] at y0 y1 y3
        have r0 := fun u : LaterC wx M => u.cell y0 hBM
        have r1 := fun u : LaterC wx M => u.cell y1 hBM
        have r3 := fun u : LaterC wx M => u.cell y3 hBM
        have r4 := fun u : LaterC wx M => u.cell e0 hgM
        have hpi : (p : Int) < (n : Int) := by omega
        have HTX := hid (HTW.out wx)
        have HMY := hid hmy
        clear y0 y1 y3 e0 hby hoy hmy eS hrow
        have hne : Nonempty (LaterC wx M) := ⟨⟨wx, grown_below (Below.refl _ _) _, HMY.out⟩⟩
        refine region_laterC (by kernel_rfl) (by kernel_rfl) HMY.out ?_
        repeat (go_big_quiet_step (first | (go_at_call 56; with_reducible exact HTX.out _)))
        refine wpQuiet_nil ?_
        intro _ hw'
        obtain ⟨u, hw''⟩ := hw'
        subst hw''
        have HC2 := hid (HC.out.turn u.grown u.map)
        have HBX2 : Hid (Below n0 w u.w) := hid (HBX.out.grown u.grown (Nat.le_trans hn0 HBX.out.size) (fun r e => by injection e with e; have := HC.out.hM; omega))
        clear hne r0 r1 r3 r4 HTX HMY HC HBX hgM hBM
        generalize u.w = wx at HC2 HBX2 ⊢
        have HC := HC2
        have HBX := HBX2
        clear HC2 HBX2
        obtain ⟨⟨vl, la, hbx, hown, hla⟩, hmp, hB0, hM0, hnz, hal⟩ := HC.out
        rw [HST.out] at hbx
        obtain ⟨al, cp, hvl⟩ := hown.sl.form
        rw [← HN.out] at hvl
        subst hvl
        have HX := hid hbx
        have HO := hid hown
        have HMP := hid hmp
        have HB0 := hid hB0
        have x0 := hbx.cell 0
        have x1 := hbx.cell 1
        have x2 := hbx.cell 2
        have f0 := hbx.ice 0
        have f1 := hbx.ice 1
        have f2 := hbx.ice 2
        have HBS := hid hbx.lt
        simp only [List.getElem?_cons_zero, List.getElem?_cons_succ] at x0 x1 x2
        have HNB := hid (Nat.le_trans hB0 (Nat.le_of_lt hbx.lt))
        have HXS := hid (HX.out.set 1 (.int .i64 (n : Int)))
        have HOS := hid (HO.out.set HX.out (by decide) 1 (.int .i64 (n : Int)))
        simp only [List.set_cons_succ, List.set_cons_zero] at HXS
        clear hbx hown hla hmp hnz hal hB0
        by_cases hz : cl = 0
        · have e1 : (cl == 0) = true := by rw [hz]; rfl
          have HZ := hid hz
          clear hz
          go_wp2_with (at_builtin; go_loud (refine wpList_app _ rfl _ _ 22 rfl .i64 n0 3 8 Try.underlying22 Try.infoI64 _ q.out [c] rfl (HOS.out.alloc (.cells #[.int .i64 c] 3)) _ rfl (one_sl (by first | simp | rfl)) (by have := HN.out; unfold maxLen; simp; omega) (by have := HN.out; simp; omega) (by have := HNB.out; simp; omega) ?_); intro v6 w6 ho6 hg6 hb6 hn6; obtain ⟨a6, c6, hv6⟩ := ho6.sl.form; rw [← HN1.out] at hv6; subst hv6; have HO6 := hid ho6; have HM6 : Hid (w6.heap[M]? = wx.heap[M]?) := hid ((hg6.block M (by have := HMP.out.lt; simp; omega) (own_nomap HO.out HMP.out)).trans ((Below.heap_alloc _ _ _ (by have := HMP.out.lt; simp; omega)).trans (map_set HMP.out HX.out 1 (.int .i64 (n : Int))))); have HX6 := hid (box_grow (HXS.out.alloc (.cells #[.int .i64 c] 3)) (HOS.out.alloc (.cells #[.int .i64 c] 3)) hg6); have HB6 : Hid (Below n0 wx w6) := hid (Below.trans (show Below n0 wx _ from ((Below.refl n0 wx).setCell HB0.out _).alloc (by have := HNB.out; simp; omega) _) hb6); have y0 := HX6.out.cell 0; have y1 := HX6.out.cell 1; have y2 := HX6.out.cell 2; have g0 := HX6.out.ice 0; have g1 := HX6.out.ice 1; have g2 := HX6.out.ice 2; simp only [List.getElem?_cons_zero, List.getElem?_cons_succ] at y0 y1 y2; clear ho6 hg6 hb6 hn6)
          go_end0
          have k1 := HX6.out.set 0 (.slice a6 n1 c6)
          have k2 := k1.set 2 (.int .i64 cl)
          have HM6' := HMP.out.same HM6.out
          have m1 := map_set HM6' HX6.out 0 (.slice a6 n1 c6)
          have m2 := map_set (HM6'.same m1) k1 2 (.int .i64 cl)
          simp only [List.set_cons_succ, List.set_cons_zero] at k1 k2
          refine ⟨rfl, ?_, ((HBX.out.trans HB6.out).setCell HB0.out _).setCell HB0.out _⟩
          rw [HN.out] at k2
          rw [step_new (by rw [← HCL.out]; exact HZ.out) HNO.out]
          exact compI_new HC.out ((m2.trans m1).trans HM6.out) k2 ((HO6.out.set HX6.out (by decide) 0 (.slice a6 n1 c6)).set k1 (by decide) 2 _) HI.out
        · have e1 : (cl == 0) = false := by simpa using hz
          have HZ := hid hz
          clear hz
          go_wp2_with (at_builtin; go_loud (refine wpList_app _ rfl _ _ 22 rfl .i64 n0 3 8 Try.underlying22 Try.infoI64 _ q.out [c] rfl (HO.out.alloc (.cells #[.int .i64 c] 3)) _ rfl (one_sl (by first | simp | rfl)) (by have := HN.out; unfold maxLen; simp; omega) (by have := HN.out; simp; omega) (by have := HNB.out; simp; omega) ?_); intro v6 w6 ho6 hg6 hb6 hn6; obtain ⟨a6, c6, hv6⟩ := ho6.sl.form; rw [← HN1.out] at hv6; subst hv6; have HO6 := hid ho6; have HM6 : Hid (w6.heap[M]? = wx.heap[M]?) := hid ((hg6.block M (by have := HMP.out.lt; simp; omega) (own_nomap HO.out HMP.out)).trans (Below.heap_alloc _ _ _ HMP.out.lt)); have HX6 := hid (box_grow (HX.out.alloc (.cells #[.int .i64 c] 3)) (HO.out.alloc (.cells #[.int .i64 c] 3)) hg6); have HB6 : Hid (Below n0 wx w6) := hid (Below.trans (show Below n0 wx _ from (Below.refl n0 wx).alloc HNB.out _) hb6); have y0 := HX6.out.cell 0; have y1 := HX6.out.cell 1; have y2 := HX6.out.cell 2; have g0 := HX6.out.ice 0; have g1 := HX6.out.ice 1; have g2 := HX6.out.ice 2; simp only [List.getElem?_cons_zero, List.getElem?_cons_succ] at y0 y1 y2; clear ho6 hg6 hb6 hn6)
          go_end0
          have k1 := HX6.out.set 0 (.slice a6 n1 c6)
          have k2 := k1.set 2 (.int .i64 cl)
          have HM6' := HMP.out.same HM6.out
          have m1 := map_set HM6' HX6.out 0 (.slice a6 n1 c6)
          have m2 := map_set (HM6'.same m1) k1 2 (.int .i64 cl)
          simp only [List.set_cons_succ, List.set_cons_zero] at k1 k2
          refine ⟨rfl, ?_, ((HBX.out.trans HB6.out).setCell HB0.out _).setCell HB0.out _⟩
          rw [step_add (by rw [← HCL.out]; exact HZ.out) HNO.out]
          exact compI_add HC.out ((m2.trans m1).trans HM6.out) (by rw [HST.out, ← HCL.out]; exact k2) ((HO6.out.set HX6.out (by decide) 0 (.slice a6 n1 c6)).set k1 (by decide) 2 _) HI.out (by rw [← HCL.out]; exact HZ.out)
end Go.Proofs.Ytdncmdpacidgmaa
