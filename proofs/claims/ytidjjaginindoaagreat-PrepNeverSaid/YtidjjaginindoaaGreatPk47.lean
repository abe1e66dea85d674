/- Several texts in one: StepApp, LawCase21. -/
import Derived.Test.YtidjjaginindoaaGreatPk1
import Derived.Deep.RegionLaw
import Derived.Test.YtidjjaginindoaaGreatPk31
import Derived.Test.YtidjjaginindoaaGreatPk46
import Derived.Test.YtidjjaginindoaaGreatPk25
import Derived.Test.YtidjjaginindoaaGreatPk24
import Derived.Test.YtidjjaginindoaaGreatPk3
import Derived.Deep.RegionHeld3
import Derived.BigQuiet
import Derived.Deep.CutBlock
/-! StepApp -/
namespace Go.Proofs.YtidjjaginindoaaGreat
open Go.RowKit

theorem run_appN {P : Program} (w : World) (t ty : TypeId) (k : IntKind) (base e : Nat) (bytes : Nat) (ht : P.underlying t = some (.slice e)) (hinfo : (P.info? e).map (fun i => (i.zero, i.size, i.bytes)) = some (some (.int k 0), 1, bytes))
    (v : Value) (xs ys : List Int) (hown : Own k e base w v xs) (u : Value) (hu : Sl k w u ys)
    (h63 : xs.length + ys.length ≤ maxLen) (hbytes : (xs.length + ys.length) * bytes ≤ 140737488355328) (hbase : base ≤ w.heap.size) :
    ∃ v' w', (Builtin.append_ #[t, t] ty #[v, u]).run P w = .ok v' w' ∧ Own k e base w' v' (xs ++ ys) ∧ w.grownBy w' v.ownBlock ∧ Below base w w' := by
  obtain ⟨i, hi, hz0, hz1, hz2⟩ := info_parts hinfo
  have hbel : ∀ w', w.grownBy w' v.ownBlock → Below base w w' := fun w' hg => (Below.refl base w).grown hg hbase (fun k hk => (World.ownsRow.lt hown k hk).1)
  obtain ⟨ao, cap, rfl, hl, hm, hu⟩ := hu
  rcases hu with rfl | ⟨b, off, rfl, hbb, hc⟩
  · have hy : ys = [] := List.eq_nil_of_length_eq_zero (by omega)
    subst hy
    match ao with
    | none =>
      have hrun := run_append_owned_none (P := P) w base t ty e i 1 ht hi v xs.length (xs.map (Value.int k)) hown
      exact ⟨v, w, hrun, by rw [List.append_nil]; exact hown, World.grownBy.refl _ _, Below.refl _ _⟩
    | some ad =>
      obtain ⟨v', w', hrun, r1, r2, _⟩ := run_append_own (P := P) w base t ty e i (.int k 0) 1 bytes ht hi hz0 hz1 hz2 rfl (by decide) v xs.length (xs.map (Value.int k)) hown ad 0 0 [] (by simp) (fun j u hj => by simp at hj) (fun u hu => by cases hu) h63 hbytes hbase
      exact ⟨v', w', hrun, by simpa [Own] using r1, r2, hbel w' r2⟩
  · obtain ⟨v', w', hrun, r1, r2, _⟩ := run_append_own (P := P) w base t ty e i (.int k 0) 1 bytes ht hi hz0 hz1 hz2 rfl (by decide) v xs.length (xs.map (Value.int k)) hown ⟨b, off, none⟩ ys.length cap (ys.map (Value.int k)) (by simp) (by
      intro j u hj
      rw [List.getElem?_map] at hj
      have hadd : (⟨b, off, none⟩ : Addr).add j = ⟨b, off + j, none⟩ := by unfold Addr.add; split <;> simp_all
      rcases Nat.lt_or_ge j ys.length with hjl | hjl
      · rw [hadd, hc j hjl, ← hj, List.getD_eq_getElem?_getD, List.getElem?_eq_getElem hjl]; rfl
      · rw [List.getElem?_eq_none hjl] at hj; cases hj) (ints_oneCell k ys) h63 hbytes hbase
    exact ⟨v', w', hrun, by simpa [Own] using r1, r2, hbel w' r2⟩
theorem step_appN {P : Program} (w : World) {ops : Array Oper} {o : Oper} {a : Act} {K : Act → World → Prop} {Q : Exit → Act → World → Prop} {E : Prop} (hg : o.guard = none) (s x : Operand) (t : TypeId)
    (hop : o.op = .call { callee := .builtin .append, args := #[s, x], argTypes := #[t, t] }) (k : IntKind)
    (base e : Nat) (bytes : Nat) (ht : P.underlying t = some (.slice e)) (hinfo : (P.info? e).map (fun i => (i.zero, i.size, i.bytes)) = some (some (.int k 0), 1, bytes))
    (v : Value) (xs ys : List Int) (hs : a.eval s = v) (hown : Own k e base w v xs) (u : Value) (hx : a.eval x = u) (hu : Sl k w u ys)
    (h63 : xs.length + ys.length ≤ maxLen) (hbytes : (xs.length + ys.length) * bytes ≤ 140737488355328) (hbase : base ≤ w.heap.size)
    (hK : ∀ v' w', Own k e base w' v' (xs ++ ys) → w.grownBy w' v.ownBlock → Below base w w' → K (a.put o.dst v') w') :
    if Region.wanted o (yielded ops a.tmps) = true then Oper.wp P o a w K Q else E := by
  have hw : Region.wanted o (yielded ops a.tmps) = true := by simp [Region.wanted, hg]
  rw [if_pos hw]
  obtain ⟨v', w', hrun, r1, r2, r3⟩ := run_appN (P := P) w t o.type k base e bytes ht hinfo v xs ys hown u hu h63 hbytes hbase
  unfold Oper.wp
  simp [execOp, hop, resolve, invoke, builtin, hs, hx, hrun, Result.andThen]
  exact hK v' w' r1 r2 r3
end Go.Proofs.YtidjjaginindoaaGreat

/-! LawCase21 -/
namespace Go.Proofs.YtidjjaginindoaaGreat
open Go.RowKit
theorem nothing_in : (tabNothing.all fun r => hasS tabNothing r.f && inI r.f) = true := by decide +kernel
theorem nothing_len : 0 < tabNothing.length ∧ tabNothing.length ≤ 1000 := by decide
theorem prep_map {r : Int} {s t : List Int} (h : mapP r t = mapP r s) : prepP r t = prepP r s := by unfold prepP; rw [h]

set_option maxRecDepth 10000 in
set_option maxHeartbeats 4000000 in
theorem walkCase21 (HP : PrPrepOk) (HF : FAllOk) (v : Value) (s : List Int) (which at_ no : Int) (w : World) (hs : Sl .i64 w v s) (hi : s.all inI = true) :
    Calls Tryz.prog 5 #[v, .int .i64 which, .int .i64 at_, .int .i64 no] w fun e w' => e = .returned (.bool true) ∧ Below w.heap.size w w' := by
  have HS_s := hid hs
  have ml_s := hs.len
  obtain ⟨a_s, c_s, hv_s⟩ := hs.form
  obtain ⟨n, hn_s⟩ : ∃ n, n = s.length := ⟨_, rfl⟩
  rw [← hn_s] at hv_s ml_s
  subst hv_s
  have HN_s := hid hn_s
  clear hn_s hs
  have HW := hid (fun w => lawWakes21 HP w)
  have HB0 := hid (Below.refl w.heap.size w)
  by_cases hl_n : n ≤ 150
  · have ln := HN_s.out
    obtain ⟨N, hN⟩ : ∃ N, N = tabNothing.length := ⟨_, rfl⟩
    have hN0 : 0 < N := by rw [hN]; exact nothing_len.1
    have hN1 : N ≤ 1000 := by rw [hN]; exact nothing_len.2
    obtain ⟨K, hK, hK1, hK2⟩ := ix_rem no (N : Int) (by omega) (by omega)
    obtain ⟨j, rfl⟩ : ∃ j : Nat, K = (j : Int) := ⟨K.toNat, by omega⟩
    have hj : j < N := by omega
    have wN : IntKind.u64.wrap (N : Int) = (N : Int) := by simp only [IntKind.wrap, IntKind.bits, IntKind.signed]; simp; omega
    have wNz : ((N : Int) == 0) = false := by rw [beq_eq_false_iff_ne]; omega
    have hmem : tabNothing.getD j noRg ∈ tabNothing := by rw [List.getD_eq_getElem?_getD, List.getElem?_eq_getElem (show j < tabNothing.length from by omega)]; exact List.getElem_mem _
    have HCALL := hid (fun w => (apiNothing w).mono fun e w' (h : ∃ v, e = .returned v ∧ Sg w' v tabNothing ∧ Below w.heap.size w w') => (show ∃ b o q, e = .returned (.slice (some ⟨b, o, none⟩) N q) ∧ N ≤ q ∧ b < w'.heap.size ∧ w'.cell? ⟨b, o + j * 3, none⟩ = some (.int .i64 (tabNothing.getD j noRg).f) ∧ w'.cell? ⟨b, o + j * 3 + 1, none⟩ = some (.int .i64 (tabNothing.getD j noRg).t) ∧ w'.cell? ⟨b, o + j * 3 + 2, none⟩ = some (.int .i64 (tabNothing.getD j noRg).v) ∧ Below w.heap.size w w' from by
      obtain ⟨v, rfl, h1, h2⟩ := h
      obtain ⟨b, o, q, rfl, hc, hcell⟩ := Sg.open21 h1 (by omega)
      obtain ⟨d1, d2, d3⟩ := hcell j (by omega)
      exact ⟨b, o, q, by rw [hN], by omega, World.block_lt_of_cell? w' _ d1, d1, d2, d3, h2⟩))
    have hall := List.all_eq_true.1 nothing_in _ hmem
    clear hmem hN
    generalize tabNothing.getD j noRg = rg at HCALL hall
    obtain ⟨rf, rt, rv⟩ := rg
    simp only [Bool.and_eq_true] at HCALL hall
    obtain ⟨ha1, ha2⟩ := hall
    obtain ⟨M, hM, hM1, hM2⟩ := ix_rem at_ ((n : Int) + 1) (by omega) (by omega)
    obtain ⟨m, rfl⟩ : ∃ m : Nat, M = (m : Int) := ⟨M.toNat, by omega⟩
    have hmn : m ≤ n := by omega
    have wn : IntKind.u64.wrap ((n : Int) + 1) = (n : Int) + 1 := by simp only [IntKind.wrap, IntKind.bits, IntKind.signed]; simp; omega
    have wz : ((n : Int) + 1 == 0) = false := by rw [beq_eq_false_iff_ne]; omega
    have hlt : (s.take m ++ [rf] ++ s.drop m).length ≤ 151 := by simp; omega
    have hit : (s.take m ++ [rf] ++ s.drop m).all inI = true := by
      rw [List.all_append, List.all_append, Bool.and_eq_true, Bool.and_eq_true]
      refine ⟨⟨List.all_eq_true.2 fun x hx => List.all_eq_true.1 hi x (List.mem_of_mem_take hx), ?_⟩, List.all_eq_true.2 fun x hx => List.all_eq_true.1 hi x (List.mem_of_mem_drop hx)⟩
      simp only [List.all_cons, List.all_nil, Bool.and_true]
      exact ha2
    have hfl := foldAll_len s
    have hfi := foldAll_inI hi
    obtain ⟨J, hJ, hJ1, hJ2⟩ := ix_rem which 2 (by omega) (by omega)
    have G2 := hid (fun v w h => HF v s w h hi (by omega))
    have mkG := fun (r : Int) (hr : r = 1 ∨ r = 2) (hr2 : inI r = true) => (show Hid (∀ v w, Sl .i64 w v s → Calls Tryz.prog 10 #[v, .int .i64 r] w fun e w' => ∃ x, e = .returned (.tuple #[x, .bool (prepP r s).isSome]) ∧ Sl .i64 w' x ((prepP r s).getD []) ∧ Below w.heap.size w w') ∧ Hid (∀ v w, Sl .i64 w v (foldAllS s) → Calls Tryz.prog 10 #[v, .int .i64 r] w fun e w' => ∃ x, e = .returned (.tuple #[x, .bool (prepP r s).isSome]) ∧ Sl .i64 w' x ((prepP r s).getD []) ∧ Below w.heap.size w w') ∧ Hid (∀ v w, Sl .i64 w v (s.take m ++ [rf] ++ s.drop m) → Calls Tryz.prog 10 #[v, .int .i64 r] w fun e w' => ∃ x, e = .returned (.tuple #[x, .bool (prepP r s).isSome]) ∧ Sl .i64 w' x ((prepP r s).getD []) ∧ Below w.heap.size w w') from by
      refine ⟨fun v w h => HP r v s w hr2 h hi (by omega) (fits_map hi (by omega)), fun v w h => ?_, fun v w h => ?_⟩
      · have e := map_fold hr s
        have g := HP r v (foldAllS s) w hr2 h hfi (by omega) (by rw [e]; exact fits_map hi (by omega))
        rw [prep_map e] at g
        exact g
      · have e : mapP r (s.take m ++ [rf] ++ s.drop m) = mapP r s := by
          rw [List.append_assoc, List.singleton_append, map_nothing ha1, List.take_append_drop]
        have g := HP r v (s.take m ++ [rf] ++ s.drop m) w hr2 h hit (by omega) (fits_map hit (by omega))
        rw [prep_map e] at g
        exact g)
    have key : ∃ r, (r = 1 ∨ r = 2) ∧ inI r = true ∧ ((J = 0 ∧ r = 1) ∨ (J = 1 ∧ r = 2)) := by
      by_cases h : J = 0
      · exact ⟨1, .inl rfl, by decide, .inl ⟨h, rfl⟩⟩
      · exact ⟨2, .inr rfl, by decide, .inr ⟨by omega, rfl⟩⟩
    obtain ⟨r, hr, hr2, hJr⟩ := key
    obtain ⟨G1, G3, G4⟩ := mkG r hr hr2
    generalize prepP r s = p at G1 G3 G4
    obtain ⟨B, hB⟩ : ∃ B, B = p.isSome := ⟨_, rfl⟩
    generalize p.getD [] = X at G1 G3 G4
    rw [← hB] at G1 G3 G4
    have hBB : (B != B) = false := by cases B <;> rfl
    have hBB2 : (B == B) = true := by cases B <;> rfl
    clear mkG hit hlt hfl hfi HP HF hi ha1 ha2 ln hB hr hr2 hM1 hM2 hK1 hK2 hJ1 hJ2
    rcases hJr with ⟨rfl, rfl⟩ | ⟨rfl, rfl⟩
    · go_enter Tryz.func5, Tryz.ntmps5
      go_upto_region 13 with (first
        | (have _u := HB4; clear _u; go_at_call 13; refine (keepInts _ _ X X _ HP4.out HQ4.out).mono ?_; rw [eqL_self]; rintro e w5 ⟨rfl, n5, hw5⟩; have hb5 : Below w4.heap.size w4 w5 := (by rw [hw5]; exact below_drewN n5); clear hw5; have HB5 := hid (HB4.out.trans (hb5.mono HB4.out.size)); have HP5 := hid (HP4.out.below hb5); have HS5 := hid (HS4.out.below hb5); clear hb5)
        | (have _u := HB5; clear _u; go_at_call 23; refine (HCALL.out _).mono ?_; rintro e w6 ⟨b, o, q, rfl, hq, hlt, d1, d2, d3, hb6⟩; have HB6 := hid (HB5.out.trans (hb6.mono HB5.out.size)); have HP6 := hid (HP5.out.below hb6); have HS6 := hid (HS5.out.below hb6); clear hb6)
        | (have _u := HB3; clear _u; go_at_call 10; refine (G3.out _ _ HFO3.out).mono ?_; rintro e w4 ⟨v4, rfl, ho4, hb4⟩; have HQ4 := hid ho4; have HB4 := hid (HB3.out.trans (hb4.mono HB3.out.size)); have HP4 := hid (HP3.out.below hb4); have HS4 := hid (HS3.out.below hb4); clear hb4 ho4)
        | (have _u := HB2; clear _u; go_at_call 22; refine (G2.out _ _ HS2.out).mono ?_; rintro e w3 ⟨v3, rfl, ho3, hb3⟩; have HFO3 := hid ho3.sl; have HB3 := hid (HB2.out.trans (hb3.mono HB2.out.size)); have HP3 := hid (HP2.out.below hb3); have HS3 := hid (HS2.out.below hb3); clear hb3 ho3)
        | (go_at_call 10; refine (G1.out _ _ (HS_s.out.below (by (repeat (first | exact Below.refl _ _ | exact below_drewN _ | refine Below.drew ?_ | refine Below.alloc ?_ (by simp) _ | refine Below.setCell ?_ (by simp) _ | refine below_drewN' ?_ _))))).mono ?_; rintro e w2 ⟨v2, rfl, ho2, hb2⟩; have hb2' := hid (show Below w.heap.size w w2 from ((Below.refl w.heap.size w).alloc (Nat.le_refl _) _).trans (hb2.mono (by simp))); have HP2 := hid ho2; have HB2 := hid hb2'.out; have HS2 := hid (HS_s.out.below hb2'.out); clear hb2 hb2' ho2))
      obtain ⟨HX0, HWB, HPB, HSB⟩ : Hid (Box 41 [.int .i64 rf, .int .i64 rt, .int .i64 rv] w6.heap.size (w6.alloc (.cells #[.int .i64 rf, .int .i64 rt, .int .i64 rv] 41))) ∧ Hid (Below w.heap.size w (w6.alloc (.cells #[.int .i64 rf, .int .i64 rt, .int .i64 rv] 41))) ∧ Hid (Sl .i64 (w6.alloc (.cells #[.int .i64 rf, .int .i64 rt, .int .i64 rv] 41)) v2 X) ∧ Hid (Sl .i64 (w6.alloc (.cells #[.int .i64 rf, .int .i64 rt, .int .i64 rv] 41)) (.slice a_s n c_s) s) :=
        ⟨Box.made w6 41 [.int .i64 rf, .int .i64 rt, .int .i64 rv], HB6.out.alloc HB6.out.size _, HP6.out.below ((Below.refl w6.heap.size w6).alloc (Nat.le_refl _) _), HS6.out.below ((Below.refl w6.heap.size w6).alloc (Nat.le_refl _) _)⟩
      clear d1 d2 d3 hlt hq HB6 HP6 HS6 HCALL
      generalize w6.alloc (.cells #[.int .i64 rf, .int .i64 rt, .int .i64 rv] 41) = wx at HX0 HWB HPB HSB ⊢
      generalize w6.heap.size = GB at HX0 ⊢
      have HBq := hid ((Below.refl wx.heap.size wx).drew)
      have hSq : Sl .i64 wx.drew (.slice a_s n c_s) s := HSB.out.below HBq.out
      obtain ⟨vA, hA1, hA2, hA3⟩ := cut_all (P := Tryz.prog) wx.drew 22 3 Tryz.underlying22 Tryz.infoI64 .i64 _ s hSq none (some (.int .i64 (m : Int))) 0 m (.inl ⟨rfl, rfl⟩) (.inr ⟨.i64, rfl⟩) (by omega) (by have := HN_s.out; omega)
      obtain ⟨vB, hB1, hB2, hB3⟩ := cut_all (P := Tryz.prog) wx.drew 22 3 Tryz.underlying22 Tryz.infoI64 .i64 _ s hSq (some (.int .i64 (m : Int))) none m s.length (.inr ⟨.i64, rfl⟩) (.inl ⟨rfl, rfl⟩) (by have := HN_s.out; omega) (by omega)
      have HVA := hid (show Sl .i64 wx.drew vA (s.take m) from by have h := hA3 _ hSq; simpa using h)
      have HVB := hid (show Sl .i64 wx.drew vB (s.drop m) from by have h := hB3 _ hSq; rw [List.take_of_length_le (by simp)] at h; exact h)
      have hta : (s.take m).length ≤ 150 := by have := HN_s.out; simp; omega
      have htb : (s.drop m).length ≤ 150 := by have := HN_s.out; simp; omega
      have HL := hid (And.intro hta htb)
      have HCELL := hid (fun w' (hb : Below wx.heap.size wx.drew w') => (show w'.cell? ⟨GB, 0, none⟩ = some (.int .i64 rf) from (HX0.out.below (HBq.out.trans hb) HX0.out.lt).cell 0))
      have z0 := HCELL.out _ (Below.refl _ _)
      clear hA3 hB3 hSq hta htb hmn
      generalize s.take m = TA at HVA G4 HL
      generalize s.drop m = TB at HVB G4 HL
      have HTA := hid (fun w h => keepTwinInts vA TA w h (by have := HL.out.1; omega))
      go_region_law (first
        | (have _u := HO5; clear _u; refine step_appN _ rfl _ _ 22 rfl .i64 wx.heap.size 3 8 Tryz.underlying22 Tryz.infoI64 v5 (TA ++ [rf]) TB rfl HO5.out vB rfl (HVB.out.below HB5.out) (by have := HL.out; rw [List.length_append]; simp only [List.length_cons, List.length_nil]; unfold maxLen; omega) (by have := HL.out; rw [List.length_append]; simp only [List.length_cons, List.length_nil]; omega) HB5.out.size ?_; intro v7 w7 ho7 hg7 hb7; have HO7 := hid ho7.sl; have HB7 := hid (HWB.out.trans ((HBq.out.trans (HB5.out.trans hb7)).mono HWB.out.size)); have HP7 := hid (HPB.out.below (HBq.out.trans (HB5.out.trans hb7))); clear ho7 hg7 hb7)
        | (have _u := HLIT; clear _u; refine step_appN _ rfl _ _ 22 rfl .i64 wx.heap.size 3 8 Tryz.underlying22 Tryz.infoI64 vT TA [rf] rfl HOT.out _ rfl HLIT.out (by have := HL.out; simp only [List.length_cons, List.length_nil]; unfold maxLen; omega) (by have := HL.out; simp only [List.length_cons, List.length_nil]; omega) HBa.out.size ?_; intro v5 w5 ho5 hg5 hb5; have HO5 := hid ho5; have HB5 := hid (HBa.out.trans hb5); clear ho5 hg5 hb5)
        | (have _u := HOT; clear _u; refine step_appN _ rfl _ _ 22 rfl .i64 wx.heap.size 3 8 Tryz.underlying22 Tryz.infoI64 vT TA [rf] rfl (HOT.out.alloc _) _ rfl (lit_sl rfl rfl rfl (by simp)) (by have := HL.out; simp only [List.length_cons, List.length_nil]; unfold maxLen; omega) (by have := HL.out; simp only [List.length_cons, List.length_nil]; omega) (by have := HBa.out.size; simp at this ⊢; omega) ?_; intro v5 w5 ho5 hg5 hb5; have HO5 := hid ho5; have HB5 := hid ((HBa.out.alloc HBa.out.size _).trans hb5); clear ho5 hg5 hb5)
        | ((try go_simp); go_at_call 9; refine (HTA.out _ (HVA.out.below (Below.refl _ _))).mono ?_; rintro e wa ⟨vT, rfl, hoT, hba⟩; have HBa := hid (show Below wx.heap.size wx.drew wa from hba); have HOT := hid (show Own .i64 3 wx.heap.size wa vT TA from hoT); have z1 := HCELL.out _ HBa.out; clear hba hoT)
        | ((try go_simp); go_at_call 9; refine (HTA.out _ (HVA.out.below ((Below.refl wx.drew.heap.size wx.drew).alloc (Nat.le_refl _) _))).mono ?_; rintro e wa ⟨vT, rfl, hoT, hba⟩; have HLIT := hid (Sl.below (show Sl .i64 (wx.drew.alloc (.cells #[.int .i64 rf] 3)) (.slice (some ⟨wx.heap.size, 0, none⟩) 1 1) [rf] from lit_sl rfl rfl rfl (by simp)) hba); have HBa := hid (show Below wx.heap.size wx.drew wa from ((Below.refl wx.drew.heap.size wx.drew).alloc (Nat.le_refl _) _).trans (hba.mono (by simp))); have HOT := hid (show Own .i64 3 wx.heap.size wa vT TA from hoT.mono (by simp)); clear hba hoT))
      all_goals go_wp2_with (first
        | (have _u := HBe; clear _u; go_at_call 20; refine (HW.out _).mono ?_; rintro e wf ⟨rfl, hb⟩; have HBf := hid (HBe.out.trans (hb.mono HBe.out.size)); clear hb)
        | (have _u := HBd; clear _u; go_at_call 13; refine (keepInts _ _ X X _ HQd.out HPd.out).mono ?_; rw [eqL_self]; rintro e we ⟨rfl, ne, hwe⟩; have HBe := hid (show Below w.heap.size w we from by rw [hwe]; exact below_drewN' HBd.out ne); clear hwe)
        | (go_at_call 10; refine (G4.out _ _ HO7.out).mono ?_; rintro e wd ⟨vd, rfl, hsd, hb⟩; have HBd := hid (HB7.out.trans (hb.mono HB7.out.size)); have HPd := hid (HP7.out.below hb); have HQd := hid hsd; clear hb hsd))
      all_goals go_ret
      all_goals exact ⟨rfl, HBf.out⟩
    · go_enter Tryz.func5, Tryz.ntmps5
      go_upto_region 13 with (first
        | (have _u := HB4; clear _u; go_at_call 13; refine (keepInts _ _ X X _ HP4.out HQ4.out).mono ?_; rw [eqL_self]; rintro e w5 ⟨rfl, n5, hw5⟩; have hb5 : Below w4.heap.size w4 w5 := (by rw [hw5]; exact below_drewN n5); clear hw5; have HB5 := hid (HB4.out.trans (hb5.mono HB4.out.size)); have HP5 := hid (HP4.out.below hb5); have HS5 := hid (HS4.out.below hb5); clear hb5)
        | (have _u := HB5; clear _u; go_at_call 23; refine (HCALL.out _).mono ?_; rintro e w6 ⟨b, o, q, rfl, hq, hlt, d1, d2, d3, hb6⟩; have HB6 := hid (HB5.out.trans (hb6.mono HB5.out.size)); have HP6 := hid (HP5.out.below hb6); have HS6 := hid (HS5.out.below hb6); clear hb6)
        | (have _u := HB3; clear _u; go_at_call 10; refine (G3.out _ _ HFO3.out).mono ?_; rintro e w4 ⟨v4, rfl, ho4, hb4⟩; have HQ4 := hid ho4; have HB4 := hid (HB3.out.trans (hb4.mono HB3.out.size)); have HP4 := hid (HP3.out.below hb4); have HS4 := hid (HS3.out.below hb4); clear hb4 ho4)
        | (have _u := HB2; clear _u; go_at_call 22; refine (G2.out _ _ HS2.out).mono ?_; rintro e w3 ⟨v3, rfl, ho3, hb3⟩; have HFO3 := hid ho3.sl; have HB3 := hid (HB2.out.trans (hb3.mono HB2.out.size)); have HP3 := hid (HP2.out.below hb3); have HS3 := hid (HS2.out.below hb3); clear hb3 ho3)
        | (go_at_call 10; refine (G1.out _ _ (HS_s.out.below (by (repeat (first | exact Below.refl _ _ | exact below_drewN _ | refine Below.drew ?_ | refine Below.alloc ?_ (by simp) _ | refine Below.setCell ?_ (by simp) _ | refine below_drewN' ?_ _))))).mono ?_; rintro e w2 ⟨v2, rfl, ho2, hb2⟩; have hb2' := hid (show Below w.heap.size w w2 from ((Below.refl w.heap.size w).alloc (Nat.le_refl _) _).trans (hb2.mono (by simp))); have HP2 := hid ho2; have HB2 := hid hb2'.out; have HS2 := hid (HS_s.out.below hb2'.out); clear hb2 hb2' ho2))
      obtain ⟨HX0, HWB, HPB, HSB⟩ : Hid (Box 41 [.int .i64 rf, .int .i64 rt, .int .i64 rv] w6.heap.size (w6.alloc (.cells #[.int .i64 rf, .int .i64 rt, .int .i64 rv] 41))) ∧ Hid (Below w.heap.size w (w6.alloc (.cells #[.int .i64 rf, .int .i64 rt, .int .i64 rv] 41))) ∧ Hid (Sl .i64 (w6.alloc (.cells #[.int .i64 rf, .int .i64 rt, .int .i64 rv] 41)) v2 X) ∧ Hid (Sl .i64 (w6.alloc (.cells #[.int .i64 rf, .int .i64 rt, .int .i64 rv] 41)) (.slice a_s n c_s) s) :=
        ⟨Box.made w6 41 [.int .i64 rf, .int .i64 rt, .int .i64 rv], HB6.out.alloc HB6.out.size _, HP6.out.below ((Below.refl w6.heap.size w6).alloc (Nat.le_refl _) _), HS6.out.below ((Below.refl w6.heap.size w6).alloc (Nat.le_refl _) _)⟩
      clear d1 d2 d3 hlt hq HB6 HP6 HS6 HCALL
      generalize w6.alloc (.cells #[.int .i64 rf, .int .i64 rt, .int .i64 rv] 41) = wx at HX0 HWB HPB HSB ⊢
      generalize w6.heap.size = GB at HX0 ⊢
      have HBq := hid ((Below.refl wx.heap.size wx).drew)
      have hSq : Sl .i64 wx.drew (.slice a_s n c_s) s := HSB.out.below HBq.out
      obtain ⟨vA, hA1, hA2, hA3⟩ := cut_all (P := Tryz.prog) wx.drew 22 3 Tryz.underlying22 Tryz.infoI64 .i64 _ s hSq none (some (.int .i64 (m : Int))) 0 m (.inl ⟨rfl, rfl⟩) (.inr ⟨.i64, rfl⟩) (by omega) (by have := HN_s.out; omega)
      obtain ⟨vB, hB1, hB2, hB3⟩ := cut_all (P := Tryz.prog) wx.drew 22 3 Tryz.underlying22 Tryz.infoI64 .i64 _ s hSq (some (.int .i64 (m : Int))) none m s.length (.inr ⟨.i64, rfl⟩) (.inl ⟨rfl, rfl⟩) (by have := HN_s.out; omega) (by omega)
      have HVA := hid (show Sl .i64 wx.drew vA (s.take m) from by have h := hA3 _ hSq; simpa using h)
      have HVB := hid (show Sl .i64 wx.drew vB (s.drop m) from by have h := hB3 _ hSq; rw [List.take_of_length_le (by simp)] at h; exact h)
      have hta : (s.take m).length ≤ 150 := by have := HN_s.out; simp; omega
      have htb : (s.drop m).length ≤ 150 := by have := HN_s.out; simp; omega
      have HL := hid (And.intro hta htb)
      have HCELL := hid (fun w' (hb : Below wx.heap.size wx.drew w') => (show w'.cell? ⟨GB, 0, none⟩ = some (.int .i64 rf) from (HX0.out.below (HBq.out.trans hb) HX0.out.lt).cell 0))
      have z0 := HCELL.out _ (Below.refl _ _)
      clear hA3 hB3 hSq hta htb hmn
      generalize s.take m = TA at HVA G4 HL
      generalize s.drop m = TB at HVB G4 HL
      have HTA := hid (fun w h => keepTwinInts vA TA w h (by have := HL.out.1; omega))
      go_region_law (first
        | (have _u := HO5; clear _u; refine step_appN _ rfl _ _ 22 rfl .i64 wx.heap.size 3 8 Tryz.underlying22 Tryz.infoI64 v5 (TA ++ [rf]) TB rfl HO5.out vB rfl (HVB.out.below HB5.out) (by have := HL.out; rw [List.length_append]; simp only [List.length_cons, List.length_nil]; unfold maxLen; omega) (by have := HL.out; rw [List.length_append]; simp only [List.length_cons, List.length_nil]; omega) HB5.out.size ?_; intro v7 w7 ho7 hg7 hb7; have HO7 := hid ho7.sl; have HB7 := hid (HWB.out.trans ((HBq.out.trans (HB5.out.trans hb7)).mono HWB.out.size)); have HP7 := hid (HPB.out.below (HBq.out.trans (HB5.out.trans hb7))); clear ho7 hg7 hb7)
        | (have _u := HLIT; clear _u; refine step_appN _ rfl _ _ 22 rfl .i64 wx.heap.size 3 8 Tryz.underlying22 Tryz.infoI64 vT TA [rf] rfl HOT.out _ rfl HLIT.out (by have := HL.out; simp only [List.length_cons, List.length_nil]; unfold maxLen; omega) (by have := HL.out; simp only [List.length_cons, List.length_nil]; omega) HBa.out.size ?_; intro v5 w5 ho5 hg5 hb5; have HO5 := hid ho5; have HB5 := hid (HBa.out.trans hb5); clear ho5 hg5 hb5)
        | (have _u := HOT; clear _u; refine step_appN _ rfl _ _ 22 rfl .i64 wx.heap.size 3 8 Tryz.underlying22 Tryz.infoI64 vT TA [rf] rfl (HOT.out.alloc _) _ rfl (lit_sl rfl rfl rfl (by simp)) (by have := HL.out; simp only [List.length_cons, List.length_nil]; unfold maxLen; omega) (by have := HL.out; simp only [List.length_cons, List.length_nil]; omega) (by have := HBa.out.size; simp at this ⊢; omega) ?_; intro v5 w5 ho5 hg5 hb5; have HO5 := hid ho5; have HB5 := hid ((HBa.out.alloc HBa.out.size _).trans hb5); clear ho5 hg5 hb5)
        | ((try go_simp); go_at_call 9; refine (HTA.out _ (HVA.out.below (Below.refl _ _))).mono ?_; rintro e wa ⟨vT, rfl, hoT, hba⟩; have HBa := hid (show Below wx.heap.size wx.drew wa from hba); have HOT := hid (show Own .i64 3 wx.heap.size wa vT TA from hoT); have z1 := HCELL.out _ HBa.out; clear hba hoT)
        | ((try go_simp); go_at_call 9; refine (HTA.out _ (HVA.out.below ((Below.refl wx.drew.heap.size wx.drew).alloc (Nat.le_refl _) _))).mono ?_; rintro e wa ⟨vT, rfl, hoT, hba⟩; have HLIT := hid (Sl.below (show Sl .i64 (wx.drew.alloc (.cells #[.int .i64 rf] 3)) (.slice (some ⟨wx.heap.size, 0, none⟩) 1 1) [rf] from lit_sl rfl rfl rfl (by simp)) hba); have HBa := hid (show Below wx.heap.size wx.drew wa from ((Below.refl wx.drew.heap.size wx.drew).alloc (Nat.le_refl _) _).trans (hba.mono (by simp))); have HOT := hid (show Own .i64 3 wx.heap.size wa vT TA from hoT.mono (by simp)); clear hba hoT))
      all_goals go_wp2_with (first
        | (have _u := HBe; clear _u; go_at_call 20; refine (HW.out _).mono ?_; rintro e wf ⟨rfl, hb⟩; have HBf := hid (HBe.out.trans (hb.mono HBe.out.size)); clear hb)
        | (have _u := HBd; clear _u; go_at_call 13; refine (keepInts _ _ X X _ HQd.out HPd.out).mono ?_; rw [eqL_self]; rintro e we ⟨rfl, ne, hwe⟩; have HBe := hid (show Below w.heap.size w we from by rw [hwe]; exact below_drewN' HBd.out ne); clear hwe)
        | (go_at_call 10; refine (G4.out _ _ HO7.out).mono ?_; rintro e wd ⟨vd, rfl, hsd, hb⟩; have HBd := hid (HB7.out.trans (hb.mono HB7.out.size)); have HPd := hid (HP7.out.below hb); have HQd := hid hsd; clear hb hsd))
      all_goals go_ret
      all_goals exact ⟨rfl, HBf.out⟩
  · have hf_n : 150 < n := by omega
    clear hl_n HP HF
    go_enter Tryz.func5, Tryz.ntmps5
    go_wp2
    go_ret
    exact ⟨rfl, Below.refl _ _⟩
end Go.Proofs.YtidjjaginindoaaGreat
