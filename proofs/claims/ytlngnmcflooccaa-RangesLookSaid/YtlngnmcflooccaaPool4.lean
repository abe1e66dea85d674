/- Contract of package ranges' place: the place of a block among those met, which it joins if it is new. -/
import Derived.Test.YtlngnmcflooccaaPool3
import Derived.Test.YtlngnmcflooccaaTail
import Derived.Test.YtlngnmcflooccaaRefRng1
import Derived.Deep.AppendLies
namespace Go.Proofs.Ytlngnmcflooccaa
open Go.RowKit Go.Maps

set_option maxHeartbeats 8000000 in
set_option maxRecDepth 100000 in
theorem rngPlace (P M base : Nat) (bs : List (List Int)) (b : List Int) (w : World) (hp : PoolOk P M base w bs) (hb : B16 b) (hbs : bs.length ≤ 5000) (hPb : base ≤ P) (hMb : base ≤ M) :
    Calls Try.prog 22 #[.pointer (some ⟨P, 0, none⟩), .agg (uv b).toArray] w fun e w' => e = .returned (.int .i64 (bs.idxOf b : Nat)) ∧ PoolOk P M base w' (if b ∈ bs then bs else bs ++ [b]) ∧ Keeps w w' ∧ Below base w w' := by
  obtain ⟨iv, D, hbx, hrow, hmap, hidx⟩ := hp
  have HW1 : Hid (Below w.heap.size w (w.alloc (.cells (uv b).toArray 52))) := hid (by (repeat (first | exact Below.refl _ _ | exact below_drewN _ | refine Below.drew ?_ | refine Below.alloc ?_ (by first | omega | (simp; done) | (simp; omega)) _ | refine Below.setCell ?_ (by first | (simp; done) | (simp; omega)) _ | refine below_drewN' ?_ _)))
  have HBX := hid (hbx.alloc (.cells (uv b).toArray 52))
  have HROW := hid (ownsRow_below hrow HW1.out)
  have HMAP := hid (ownsMap_below hmap HW1.out)
  have HIDX := hid hidx
  have HBB := hid (Box.made w 52 (uv b))
  have HB := hid hb
  have hUL : Hid ((uv b).length = 256) := hid (by rw [uv_len, hb.1])
  have HPL := hid hbx.lt
  have HRL := hid (fun g (hg : iv.ownBlock = some g) => (World.ownsRow.lt hrow g hg).2)
  clear hbx hrow hmap hidx hb
  have y0 := HBX.out.cell 0
  have y1 := HBX.out.cell 1
  have f0 := HBX.out.ice 0
  have f1 := HBX.out.ice 1
  simp only [List.getElem?_cons_zero, List.getElem?_cons_succ] at y0 y1
  obtain ⟨bs', hbs'⟩ : ∃ bs', bs' = (if b ∈ bs then bs else bs ++ [b]) := ⟨_, rfl⟩
  rw [← hbs']
  have HBS' := hid hbs'
  clear hbs'
  go_enter Try.func22, Try.ntmps22
  go_wp2_with (fail)
  have HW2 : Hid (Keeps w (w.alloc (.cells (uv b).toArray 52)) ∧ Below base w (w.alloc (.cells (uv b).toArray 52))) := hid ⟨Keeps.of_below HW1.out, HW1.out.mono (by have := HPL.out; omega)⟩
  generalize w.alloc (.cells (uv b).toArray 52) = W at HW1 HW2 HBX HROW HMAP HBB y0 y1 f0 f1 ⊢
  generalize w.heap.size = X at HBB HPL HRL ⊢
  clear HW1
  have hlook := pool_look (w := W.drew) (M := M) (bs := bs) (D := D) HMAP.out HIDX.out HB.out
  by_cases hm : b ∈ bs
  · rw [if_pos hm, decide_eq_true hm] at hlook
    have HM := hid hm
    have HL := hid hlook
    clear hm hlook
    refine region_tail 10 (by kernel_rfl) (by kernel_rfl) ?_
    simp only [List.take_succ_cons, List.take_zero, List.drop_succ_cons, List.drop_zero]
    still_step
    still_step
    still_step
    still_step
    refine still_at rfl (exec_loadB rfl rfl HBB.out hUL.out) ?_
    refine still_at rfl (exec_look rfl rfl rfl HL.out) ?_
    repeat still_step
    refine wpStill_nil ?_
    go_wp2_with (fail)
    go_ret
    exact ⟨rfl, by rw [HBS'.out, if_pos HM.out]; exact ⟨iv, D, HBX.out, HROW.out, HMAP.out, HIDX.out⟩, HW2.out.1, HW2.out.2.drew⟩
  · rw [if_neg hm, decide_eq_false hm] at hlook
    have HM := hid hm
    have HL := hid hlook
    clear hm hlook
    obtain ⟨ai, ci, hiv⟩ := row_form HROW.out
    obtain ⟨nb, hnb⟩ : ∃ nb, nb = bs.length := ⟨_, rfl⟩
    rw [← hnb] at hiv hbs
    have HNB := hid hnb
    subst hiv
    have HIX := hid (show ((bs.idxOf b : Nat) : Int) = (nb : Int) by rw [List.idxOf_eq_length HM.out, HNB.out])
    clear hnb
    refine region_tail 10 (by kernel_rfl) (by kernel_rfl) ?_
    simp only [List.take_succ_cons, List.take_zero, List.drop_succ_cons, List.drop_zero]
    still_step
    still_step
    still_step
    still_step
    refine still_at rfl (exec_loadB rfl rfl HBB.out hUL.out) ?_
    refine still_at rfl (exec_look rfl rfl rfl HL.out) ?_
    repeat still_step
    refine wpStill_nil ?_
    go_wp2_with (fail)
    refine region_open 11 rfl (by kernel_rfl) ?_
    have HBXv : Hid (Box 49 [.slice ai nb ci, .map (some M)] P W.drew.drew) := HBX
    have HROWv : Hid (W.drew.drew.ownsRow base 52 256 (.slice ai nb ci) nb (uv bs.flatten)) := hid (by rw [HNB.out]; have := HROW.out; rw [← HNB.out] at this ⊢; exact this)
    have HMAPv : Hid (W.drew.drew.ownsMap Try.prog 52 (plainElem (H := Unit) Try.prog 3) M nb D) := hid (by rw [HNB.out]; exact HMAP.out)
    have HBBv : Hid (Box 52 (uv b) X W.drew.drew) := HBB
    have HWv : Hid (Keeps w W.drew.drew ∧ Below base w W.drew.drew) := hid ⟨HW2.out.1, HW2.out.2.drew.drew⟩
    clear HBX HROW HMAP HBB HW2 y0 y1 f0 f1 HL
    generalize W.drew.drew = V at HBXv HROWv HMAPv HBBv HWv ⊢
    have y0 := HBXv.out.cell 0
    simp only [List.getElem?_cons_zero] at y0
    have HBX1 := hid (HBXv.out.alloc (.cells (uv b).toArray 52))
    have z0 := HBX1.out.cell 0
    simp only [List.getElem?_cons_zero] at z0
    refine wpAny_take (i := 0) (v := .pointer (some ⟨P, 0, none⟩)) rfl (by kernel_rfl) (by kernel_rfl) (by kernel_rfl) (fun _ _ _ h => h) (.inl ⟨by rfl, fun _ => exec_move rfl rfl⟩) ?_
    refine wpAny_take (i := 1) (v := .pointer (some ⟨P, 0, none⟩)) rfl (by kernel_rfl) (by kernel_rfl) (by kernel_rfl) (fun _ _ _ h => h) (.inl ⟨by rfl, fun _ => exec_move rfl rfl⟩) ?_
    refine wpAny_take (i := 2) (v := .pointer (some ⟨P, 0, none⟩)) rfl (by kernel_rfl) (by kernel_rfl) (by kernel_rfl) (fun _ _ _ h => h) (.inl ⟨by rfl, fun _ => exec_nilc rfl rfl⟩) ?_
    refine wpAny_take (i := 3) (v := .pointer (some ⟨P, 0, none⟩)) rfl (by kernel_rfl) (by kernel_rfl) (by kernel_rfl) (fun _ _ _ h => h) (.inl ⟨by rfl, fun _ => by go_simp⟩) ?_
    simp only [Act.put, List.getElem_toArray, List.getElem_cons_zero, List.getElem_cons_succ, List.setIfInBounds_toArray, List.set_cons_succ, List.set_cons_zero]
    refine any_three (i := 4) (j := 5) (k := 6) (vi := .slice ai nb ci) (vj := .agg (uv b).toArray) (vk := .slice (some ⟨V.heap.size, 0, none⟩) 1 1) (w' := V.alloc (.cells (uv b).toArray 52)) rfl rfl rfl rfl rfl rfl (by decide) (by decide) (fun d h => by cases h; decide) (fun d h => by cases h; decide)
      (by kernel_rfl) (by kernel_rfl) (by kernel_rfl) (by kernel_rfl) (by kernel_rfl) (by kernel_rfl)
      (exec_items rfl rfl y0) (exec_items rfl rfl y0) (exec_items rfl rfl z0) (exec_loadB rfl rfl HBBv.out hUL.out) (exec_loadB rfl rfl HBBv.out hUL.out)
      (exec_build rfl rfl hUL.out) (exec_build rfl rfl hUL.out) (exec_build rfl rfl hUL.out) ?_
    refine any_rest 7 rfl (by kernel_rfl) ?_
    simp only [List.drop_succ_cons, List.drop_zero, Act.put, List.getElem_toArray, List.getElem_cons_zero, List.getElem_cons_succ, List.setIfInBounds_toArray, List.set_cons_succ, List.set_cons_zero]
    have HROW1 := hid (ownsRow_below HROWv.out ((Below.refl V.heap.size V).alloc (Nat.le_refl _) (.cells (uv b).toArray 52)))
    have HMAP1 := hid (ownsMap_below HMAPv.out ((Below.refl V.heap.size V).alloc (Nat.le_refl _) (.cells (uv b).toArray 52)))
    have HBB1 := hid (HBBv.out.alloc (.cells (uv b).toArray 52))
    have HNEW : Hid (Box 52 (uv b) V.heap.size (V.alloc (.cells (uv b).toArray 52))) := hid (Box.made V _ _)
    have HK1 : Hid (Keeps w (V.alloc (.cells (uv b).toArray 52)) ∧ Below base w (V.alloc (.cells (uv b).toArray 52))) := hid ⟨HWv.out.1.trans (Keeps.of_below ((Below.refl V.heap.size V).alloc (Nat.le_refl _) _)), HWv.out.2.alloc (by have := HBXv.out.lt; omega) _⟩
    have hXV : Hid (X < V.heap.size) := hid HBBv.out.lt
    obtain ⟨ib, zb, hib, hzb, hsb, hbb, hzcb⟩ := blk_zero
    clear HROWv HMAPv HBBv HWv HBXv y0
    generalize V.alloc (.cells (uv b).toArray 52) = V1 at HBX1 HROW1 HMAP1 HBB1 HNEW HK1 z0 ⊢
    generalize V.heap.size = G at HNEW hXV ⊢
    go_wp2_with (at_builtin; go_loud (refine wpList_append_lies _ rfl _ _ 47 rfl base 52 ib zb 256 512 Try.underlying47 hib hzb hsb hbb hzcb (by decide) (.slice ai nb ci) nb (uv bs.flatten) rfl HROW1.out ⟨G, 0, none⟩ 1 1 (uv b) rfl (by rw [hUL.out]) (World.news_of_block HNEW.out) (uv_one b) (by decide) (by unfold maxLen; omega) (by omega) (by have := HBX1.out.lt; omega) _ rfl ?_); intro g6 c6 w6 hown6 hg6 hat6 hlt6; have HP6 := hid (box_row HROW1.out HBX1.out (by decide) hg6); have p0 := HP6.out.cell 0; have q0 := HP6.out.ice 0; simp only [List.getElem?_cons_zero] at p0; have HOWN6 := hid hown6; have HG6 := hid hg6; have HAT6 := hid hat6; clear hown6 hg6 hat6 hlt6)
    have HP7 := hid (HP6.out.set 0 (.slice (some ⟨g6, 0, none⟩) (nb + 1) c6))
    simp only [List.set_cons_zero] at HP7
    have HR7 := hid (row_set HOWN6.out HP6.out (by decide) 0 (.slice (some ⟨g6, 0, none⟩) (nb + 1) c6))
    have hm6 := HMAP1.out.kept HG6.out (row_nomap HROW1.out HMAP1.out)
    have HM7 := hid (hm6.setCell (a := ⟨P, 0, none⟩) (fun h => box_nomap HP6.out hm6 h.symm) (.slice (some ⟨g6, 0, none⟩) (nb + 1) c6))
    have hbb6 : Box 52 (uv b) X w6 := (HG6.out.block X HBB1.out.lt (fun h => by have := HRL.out X h.symm; omega)).trans HBB1.out
    have HBB7 := hid (box_far' (j := 0) (v := .slice (some ⟨g6, 0, none⟩) (nb + 1) c6) hbb6 (show X ≠ P by have := HPL.out; omega))
    have HK7 := hid ((HK1.out.1.trans (Keeps.row HROW1.out HG6.out)).trans (Keeps.set HP6.out 0 (.slice (some ⟨g6, 0, none⟩) (nb + 1) c6)))
    have HL7 := hid (Below.setCell (HK1.out.2.grown HG6.out (by have := HBX1.out.lt; omega) (fun k hk => (World.ownsRow.lt HROW1.out k hk).1)) (show base ≤ (⟨P, 0, none⟩ : Addr).block from hPb) (.slice (some ⟨g6, 0, none⟩) (nb + 1) c6))
    clear HP6 HOWN6 hm6 hbb6 HK1 HROW1 HBX1 HMAP1 HBB1 HNEW HG6 p0 q0 z0
    generalize w6.setCell ⟨P, 0, none⟩ (.slice (some ⟨g6, 0, none⟩) (nb + 1) c6) = V7 at HP7 HR7 HM7 HBB7 HK7 HL7 ⊢
    have y1 := HP7.out.cell 1
    simp only [List.getElem?_cons_zero, List.getElem?_cons_succ] at y1
    refine region_tail 6 (by kernel_rfl) (by kernel_rfl) ?_
    simp only [List.take_succ_cons, List.take_zero, List.drop_succ_cons, List.drop_zero]
    still_step
    still_step
    still_step
    still_step
    refine still_at rfl (exec_loadB rfl rfl HBB7.out hUL.out) ?_
    repeat still_step
    refine wpStill_nil ?_
    go_wp2_with (at_mapUpdate; go_loud (refine wpList_mapUpdate_own _ rfl _ _ _ 46 rfl 52 3 blk_law Try.underlying46 (plainElem (H := Unit) Try.prog 3) M nb D rfl HM7.out.drew (by unfold maxLen; omega) (.agg (uv b).toArray) (.int .i64 nb) _ rfl rfl (blk_key HB.out) (.lit (.int .i64 nb)) [] (plainElem_int Try.underlying3 (WalkArith.wf_i64 (by omega))) ?_); intro w8 hown8 hg8; have HOWN8 := hid hown8; have HG8 := hid (grow_undrew hg8); clear hown8 hg8)
    go_ret
    refine ⟨ret_i64' HIX.out.symm, ?_, HK7.out.trans (Keeps.map HM7.out HG8.out), ?_⟩
    · rw [HBS'.out, if_neg HM.out]
      refine ⟨.slice (some ⟨g6, 0, none⟩) (nb + 1) c6, D.put (Lit.string (keyBytes (b.map (Lit.int .u16)))) (.lit (.int .i64 nb)), (HG8.out.block P HP7.out.lt (fun e => box_nomap HP7.out HM7.out (Option.some.inj e))).trans HP7.out, ?_, ?_, ?_⟩
      · have := row_map HR7.out HM7.out HG8.out
        rw [flatten_snoc, uv_app, List.length_append, ← HNB.out]
        exact this
      · have := HOWN8.out
        rw [List.length_append, ← HNB.out]
        exact this
      · have := HIDX.out.more (HM7.out.isMap) HM.out (blk_key HB.out)
        rw [← HNB.out] at this
        exact this
    · exact HL7.out.grown HG8.out (by have := HP7.out.lt; show base ≤ V7.heap.size; omega) (fun k hk => by injection hk with hk; omega)
end Go.Proofs.Ytlngnmcflooccaa
