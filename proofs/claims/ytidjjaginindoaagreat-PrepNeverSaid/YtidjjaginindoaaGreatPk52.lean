/- Several texts in one: LawNever21, WalkNever21. -/
import Derived.Test.YtidjjaginindoaaGreatPk31
import Derived.Test.YtidjjaginindoaaGreatPk46
import Derived.Test.YtidjjaginindoaaGreatPk25
import Derived.Test.YtidjjaginindoaaGreatPk3
import Derived.Test.YtidjjaginindoaaGreatPk12
import Derived.Test.YtidjjaginindoaaGreatPk47
import Derived.Deep.RegionHeld3
import Derived.BigQuiet
import Derived.Deep.CutBlock
import Derived.Test.YtidjjaginindoaaGreatPk41
/-! LawNever21 -/
namespace Go.Proofs.YtidjjaginindoaaGreat
open Go.RowKit
theorem canon832w (w : World) : Calls Tryz.prog 26 #[.int .i64 832] w fun e w' => ∃ a c, e = .returned (.slice a 1 c) ∧ Below w.heap.size w w' := (ucdCanon 832 w).mono fun e w' h => by
  rw [canon_832] at h
  obtain ⟨x, rfl, h1, h2⟩ := h
  obtain ⟨a, c, rfl⟩ := h1.form
  exact ⟨a, c, rfl, h2⟩
theorem canon833w (w : World) : Calls Tryz.prog 26 #[.int .i64 833] w fun e w' => ∃ a c, e = .returned (.slice a 1 c) ∧ Below w.heap.size w w' := (ucdCanon 833 w).mono fun e w' h => by
  rw [canon_833] at h
  obtain ⟨x, rfl, h1, h2⟩ := h
  obtain ⟨a, c, rfl⟩ := h1.form
  exact ⟨a, c, rfl, h2⟩

set_option maxRecDepth 10000 in
set_option maxHeartbeats 4000000 in
theorem walkNever21 (HP : PrPrepOk) (v : Value) (s : List Int) (at_ c how : Int) (w : World) (hs : Sl .i64 w v s) (hi : s.all inI = true) :
    Calls Tryz.prog 7 #[v, .int .i64 at_, .int .i64 c, .int .i64 how] w fun e w' => e = .returned (.bool true) ∧ Below w.heap.size w w' := by
  have HS_s := hid hs
  have ml_s := hs.len
  obtain ⟨a_s, c_s, hv_s⟩ := hs.form
  obtain ⟨n, hn_s⟩ : ∃ n, n = s.length := ⟨_, rfl⟩
  rw [← hn_s] at hv_s ml_s
  subst hv_s
  have HN_s := hid hn_s
  clear hn_s hs
  have HW := hid (fun w => lawWakes21 HP w)
  have HB0 := hid (Below.refl w.heap.size w)
  by_cases hl_n : n ≤ 150
  · obtain ⟨K, hK, hK1, hK2⟩ := ix_rem c 5 (by omega) (by omega)
    obtain ⟨j, rfl⟩ : ∃ j : Nat, K = (j : Int) := ⟨K.toNat, by omega⟩
    have hj : j < 5 := by omega
    have hmem : tabProhibited.getD j noRg ∈ tabProhibited := by rw [List.getD_eq_getElem?_getD, List.getElem?_eq_getElem (show j < tabProhibited.length from hj)]; exact List.getElem_mem _
    have HCALL := hid (fun w => (apiProhibited w).mono fun e w' (h : ∃ v, e = .returned v ∧ Sg w' v tabProhibited ∧ Below w.heap.size w w') => (show ∃ b o q, e = .returned (.slice (some ⟨b, o, none⟩) 5 q) ∧ 5 ≤ q ∧ b < w'.heap.size ∧ w'.cell? ⟨b, o + j * 3, none⟩ = some (.int .i64 (tabProhibited.getD j noRg).f) ∧ w'.cell? ⟨b, o + j * 3 + 1, none⟩ = some (.int .i64 (tabProhibited.getD j noRg).t) ∧ w'.cell? ⟨b, o + j * 3 + 2, none⟩ = some (.int .i64 (tabProhibited.getD j noRg).v) ∧ Below w.heap.size w w' from by
      obtain ⟨v, rfl, h1, h2⟩ := h
      obtain ⟨b, o, q, rfl, hc, hcell⟩ := Sg.open21 h1 (by decide)
      obtain ⟨d1, d2, d3⟩ := hcell j hj
      exact ⟨b, o, q, rfl, hc, World.block_lt_of_cell? w' _ d1, d1, d2, d3, h2⟩))
    obtain ⟨x, hx, hx1, hx2, hx3, hx4⟩ := rem_range (c := c) hmem
    clear hmem
    generalize tabProhibited.getD j noRg = r at HCALL hx hx4
    obtain ⟨rf, rt, rv⟩ := r
    simp only at HCALL hx hx4
    go_enter Tryz.func7, Tryz.ntmps7
    go_upto_region 7 with (first
      | (go_at_call 25; refine (HCALL.out _).mono ?_; rintro e w1 ⟨b, o, q, rfl, hq, hlt, d1, d2, d3, hb1⟩; have HB1 := hid hb1; clear hb1))
    obtain ⟨H, hH⟩ : ∃ H, (IntKind.u64.wrap how).tmod 3 = H := ⟨_, rfl⟩
    have hH2 := ixr' how 3 (by omega)
    rw [hH] at hH2
    obtain ⟨Z, hZ, hZ1, hZ2⟩ := ix_rem c 2048 (by omega) (by omega)
    have hxs := hx.symm
    clear hx
    have hx5 := beq_eq_false_iff_ne.2 hx4
    go_quiet (fail)
    have hbw := hid (show Below w.heap.size w (w1.alloc (.cells #[.int .i64 rf, .int .i64 rt, .int .i64 rv] 41)) from HB1.out.alloc HB1.out.size _)
    clear hx5 hxs hx4 HCALL
    go_upto_block 0 with (fail)
    go_cut [11] from 51 to 59 (fun xv wx => ∃ y : Int, xv = .int .i64 y ∧ (y = 832 ∨ y = 833 ∨ nevB y = true) ∧ 0 ≤ y ∧ y ≤ 1114111 ∧ Hid (Below w.heap.size w wx))
    case first =>
      clear HP
      by_cases h1 : H = 1
      · subst h1
        go_wp2_with (fail)
        go_meet
        exact ⟨545, rfl, .inr (.inr (by decide)), by decide, by decide, by first | exact hbw.out | exact below_drewN' hbw.out _⟩
      · have e1 : (H == 1) = false := by simpa using h1
        by_cases h2 : H = 2
        · subst h2
          go_wp2_with (fail)
          go_meet
          exact ⟨55296 + Z, by go_num, .inr (.inr (nev_mk _ (by omega))), by omega, by omega, by first | exact hbw.out | exact below_drewN' hbw.out _⟩
        · have e2 : (H == 2) = false := by simpa using h2
          go_wp2_with (fail)
          go_meet
          exact ⟨x, rfl, hx1, hx2, hx3, by first | exact hbw.out | exact below_drewN' hbw.out _⟩
    case rest =>
      rename World => wx
      obtain ⟨y, rfl, hy1, hy2, hy3, hbx⟩ := hcut
      clear hx1 hx2 hx3 hH hH2 hZ hZ1 hZ2 hK hK1 hK2 d1 d2 d3 hlt hq
      by_cases hca : y = 832
      · subst hca
        have HC := hid canon832w
        go_wp2_with (first
          | (have _u := HBa; clear _u; go_at_call 20; refine (HW.out _).mono ?_; rintro e wb ⟨rfl, hb⟩; have HBb := hid (HBa.out.trans (hb.mono HBa.out.size)); clear hb)
          | (go_at_call 26; refine (HC.out _).mono ?_; rintro e wa ⟨ac, cc, rfl, hb⟩; have HBa := hid (hbx.out.trans (hb.mono hbx.out.size)); clear hb))
        go_ret
        exact ⟨rfl, HBb.out⟩
      by_cases hcb : y = 833
      · subst hcb
        have HC := hid canon833w
        go_wp2_with (first
          | (have _u := HBa; clear _u; go_at_call 20; refine (HW.out _).mono ?_; rintro e wb ⟨rfl, hb⟩; have HBb := hid (HBa.out.trans (hb.mono HBa.out.size)); clear hb)
          | (go_at_call 26; refine (HC.out _).mono ?_; rintro e wa ⟨ac, cc, rfl, hb⟩; have HBa := hid (hbx.out.trans (hb.mono hbx.out.size)); clear hb))
        go_ret
        exact ⟨rfl, HBb.out⟩
      have hnv : nevB y = true := (hy1.resolve_left hca).resolve_left hcb
      have ln := HN_s.out
      obtain ⟨M, hM, hM1, hM2⟩ := ix_rem at_ ((n : Int) + 1) (by omega) (by omega)
      obtain ⟨m, rfl⟩ : ∃ m : Nat, M = (m : Int) := ⟨M.toNat, by omega⟩
      have hmn : m ≤ n := by omega
      have wn : IntKind.u64.wrap ((n : Int) + 1) = (n : Int) + 1 := by simp only [IntKind.wrap, IntKind.bits, IntKind.signed]; simp; omega
      have wz : ((n : Int) + 1 == 0) = false := by rw [beq_eq_false_iff_ne]; omega
      have hlt : (s.take m ++ [y] ++ s.drop m).length ≤ 151 := by simp; omega
      have hit : (s.take m ++ [y] ++ s.drop m).all inI = true := by
        rw [List.all_append, List.all_append, Bool.and_eq_true, Bool.and_eq_true]
        refine ⟨⟨List.all_eq_true.2 fun x hx => List.all_eq_true.1 hi x (List.mem_of_mem_take hx), ?_⟩, List.all_eq_true.2 fun x hx => List.all_eq_true.1 hi x (List.mem_of_mem_drop hx)⟩
        simp only [List.all_cons, List.all_nil, Bool.and_true]
        unfold inI
        rw [decide_eq_true_iff]
        omega
      have HP1 := hid (fun v w (h : Sl .i64 w v (s.take m ++ [y] ++ s.drop m)) => HP 1 v _ w (by decide) h hit (by omega) (fits_map hit (by omega)))
      have HP2 := hid (fun w => HP 0 (.slice none 0 0) [] w (by decide) ((Own.nil .i64 3 w.heap.size w).sl) (by decide) (by decide) (fits_map (by decide) (by decide)))
      rw [show prepP 1 (s.take m ++ [y] ++ s.drop m) = none from prepP_no (by rw [List.append_assoc]; exact never hnv _ _)] at HP1
      rw [show prepP 0 [] = none from prepP_off rfl] at HP2
      simp only [Option.isSome_none, Option.getD_none] at HP1 HP2
      have e32 : (y == 832) = false := by simpa using hca
      have e33 : (y == 833) = false := by simpa using hcb
      clear hit hlt hy1 hca hcb hnv HP hi ln
      go_upto_region 16 with (fail)
      have HBq := hid ((Below.refl wx.heap.size wx).drew)
      have hSq : Sl .i64 wx.drew (.slice a_s n c_s) s := (HS_s.out.below hbx.out).below HBq.out
      obtain ⟨vA, hA1, hA2, hA3⟩ := cut_all (P := Tryz.prog) wx.drew 22 3 Tryz.underlying22 Tryz.infoI64 .i64 _ s hSq none (some (.int .i64 (m : Int))) 0 m (.inl ⟨rfl, rfl⟩) (.inr ⟨.i64, rfl⟩) (by omega) (by have := HN_s.out; omega)
      obtain ⟨vB, hB1, hB2, hB3⟩ := cut_all (P := Tryz.prog) wx.drew 22 3 Tryz.underlying22 Tryz.infoI64 .i64 _ s hSq (some (.int .i64 (m : Int))) none m s.length (.inr ⟨.i64, rfl⟩) (.inl ⟨rfl, rfl⟩) (by have := HN_s.out; omega) (by omega)
      have HVA := hid (show Sl .i64 wx.drew vA (s.take m) from by have h := hA3 _ hSq; simpa using h)
      have HVB := hid (show Sl .i64 wx.drew vB (s.drop m) from by have h := hB3 _ hSq; rw [List.take_of_length_le (by simp)] at h; exact h)
      have hta : (s.take m).length ≤ 150 := by have := HN_s.out; simp; omega
      have htb : (s.drop m).length ≤ 150 := by have := HN_s.out; simp; omega
      have HL := hid (And.intro hta htb)
      clear hA3 hB3 hSq hta htb hmn hM1 hM2
      generalize s.take m = TA at HVA HP1 HL
      generalize s.drop m = TB at HVB HP1 HL
      have HTA := hid (fun w h => keepTwinInts vA TA w h (by have := HL.out.1; omega))
      go_region_law (first
        | (have _u := HO5; clear _u; refine step_appN _ rfl _ _ 22 rfl .i64 wx.heap.size 3 8 Tryz.underlying22 Tryz.infoI64 v5 (TA ++ [y]) TB rfl HO5.out vB rfl (HVB.out.below HB5.out) (by have := HL.out; rw [List.length_append]; simp only [List.length_cons, List.length_nil]; unfold maxLen; omega) (by have := HL.out; rw [List.length_append]; simp only [List.length_cons, List.length_nil]; omega) HB5.out.size ?_; intro v7 w7 ho7 hg7 hb7; have HO7 := hid ho7; have HB7 := hid (HB5.out.trans hb7); clear ho7 hg7 hb7)
        | (have _u := HLIT; clear _u; refine step_appN _ rfl _ _ 22 rfl .i64 wx.heap.size 3 8 Tryz.underlying22 Tryz.infoI64 vT TA [y] rfl HOT.out _ rfl HLIT.out (by have := HL.out; simp only [List.length_cons, List.length_nil]; unfold maxLen; omega) (by have := HL.out; simp only [List.length_cons, List.length_nil]; omega) HBa.out.size ?_; intro v5 w5 ho5 hg5 hb5; have HO5 := hid ho5; have HB5 := hid (HBa.out.trans hb5); clear ho5 hg5 hb5)
        | (have _u := HOT; clear _u; refine step_appN _ rfl _ _ 22 rfl .i64 wx.heap.size 3 8 Tryz.underlying22 Tryz.infoI64 vT TA [y] rfl (HOT.out.alloc _) _ rfl (lit_sl rfl rfl rfl (by simp)) (by have := HL.out; simp only [List.length_cons, List.length_nil]; unfold maxLen; omega) (by have := HL.out; simp only [List.length_cons, List.length_nil]; omega) (by have := HBa.out.size; simp at this ⊢; omega) ?_; intro v5 w5 ho5 hg5 hb5; have HO5 := hid ho5; have HB5 := hid ((HBa.out.alloc HBa.out.size _).trans hb5); clear ho5 hg5 hb5)
        | ((try go_simp); go_at_call 9; refine (HTA.out _ (HVA.out.below (Below.refl _ _))).mono ?_; rintro e wa ⟨vT, rfl, hoT, hba⟩; have HBa := hid (show Below wx.heap.size wx.drew wa from hba); have HOT := hid (show Own .i64 3 wx.heap.size wa vT TA from hoT); clear hba hoT)
        | ((try go_simp); go_at_call 9; refine (HTA.out _ (HVA.out.below ((Below.refl wx.drew.heap.size wx.drew).alloc (Nat.le_refl _) _))).mono ?_; rintro e wa ⟨vT, rfl, hoT, hba⟩; have HLIT := hid (Sl.below (show Sl .i64 (wx.drew.alloc (.cells #[.int .i64 y] 3)) (.slice (some ⟨wx.heap.size, 0, none⟩) 1 1) [y] from lit_sl rfl rfl rfl (by simp)) hba); have HBa := hid (show Below wx.heap.size wx.drew wa from ((Below.refl wx.drew.heap.size wx.drew).alloc (Nat.le_refl _) _).trans (hba.mono (by simp))); have HOT := hid (show Own .i64 3 wx.heap.size wa vT TA from hoT.mono (by simp)); clear hba hoT))
      all_goals go_wp2_with (first
        | (have _u := HBe; clear _u; go_at_call 20; refine (HW.out _).mono ?_; rintro e wf ⟨rfl, hb⟩; have HBf := hid (HBe.out.trans (hb.mono HBe.out.size)); clear hb)
        | (have _u := HBd; clear _u; go_at_call 10; refine (HP2.out _).mono ?_; rintro e we ⟨ve, rfl, hse, hb⟩; have HBe := hid (HBd.out.trans (hb.mono HBd.out.size)); clear hb hse)
        | (go_at_call 10; refine (HP1.out _ _ HO7.out.sl).mono ?_; rintro e wd ⟨vd, rfl, hsd, hb⟩; have HBd := hid ((hbx.out.drew.trans (HB7.out.mono hbx.out.size)).trans (hb.mono (Nat.le_trans hbx.out.size HB7.out.size))); obtain ⟨ad, cd, hvd⟩ := hsd.form; simp only [List.length_nil] at hvd; subst hvd; clear hb))
      all_goals go_ret
      all_goals exact ⟨rfl, HBf.out⟩
  · have hf_n : 150 < n := by omega
    clear hl_n HP
    go_enter Tryz.func7, Tryz.ntmps7
    go_wp2
    go_ret
    exact ⟨rfl, Below.refl _ _⟩
end Go.Proofs.YtidjjaginindoaaGreat

/-! WalkNever21 -/
namespace Go.Proofs.YtidjjaginindoaaGreat
open Go.RowKit

theorem lawNever21 (v : Value) (s : List Int) (at_ c how : Int) (w : World) (hs : Sl .i64 w v s) (hi : s.all inI = true) :
    Calls Tryz.prog 7 #[v, .int .i64 at_, .int .i64 c, .int .i64 how] w fun e w' => e = .returned (.bool true) ∧ Below w.heap.size w w' := walkNever21 prPrepIs v s at_ c how w hs hi
end Go.Proofs.YtidjjaginindoaaGreat
