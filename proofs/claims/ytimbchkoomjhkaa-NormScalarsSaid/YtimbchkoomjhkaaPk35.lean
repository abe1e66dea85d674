/- Several texts in one: Nrm11c. -/
import Derived.Test.YtimbchkoomjhkaaPk33
import Derived.Test.YtimbchkoomjhkaaPk34
import Derived.Test.YtimbchkoomjhkaaPk20
/-! Nrm11c -/
namespace Go.Proofs.Ytimbchkoomjhkaa
open Go.RowKit Go.Shelf

theorem take_snoc11 {l : List Rg} {k : Nat} (h : k < l.length) : l.take (k + 1) = l.take k ++ [l.getD k noRg] := by
  rw [List.take_succ_eq_append_getElem h, List.getD_eq_getElem?_getD, List.getElem?_eq_getElem h]
  rfl
theorem RowsM.grownE {f : Int → List Int} {base M : Nat} {w w' : World} (h : RowsM f base M w) (hb : Below w.heap.size w w') : RowsM f base M w' := h.below hb

set_option maxRecDepth 10000 in
set_option maxHeartbeats 4000000 in
theorem newPairs11 (v : Value) (l : List Rg) (w : World) (h : Sg w v l) (hin : ∀ k, k < l.length → inI (l.getD k noRg).t = true ∧ inI (l.getD k noRg).v = true) (hl : l.length ≤ 1000) :
    Calls Try.prog 38 #[v] w fun e w' => ∃ M, e = .returned (.map (some M)) ∧ w.heap.size ≤ M ∧ RowsM (frL l) w.heap.size M w' ∧ Below w.heap.size w w' := by
  have HIN := hid hin
  obtain ⟨n, hn⟩ : ∃ n, n = l.length := ⟨_, rfl⟩
  have HN := hid hn
  obtain ⟨a1, c1, hv1⟩ := h.form
  have HSG := hid h
  rw [← hn] at hv1
  subst hv1
  rw [← hn] at hl
  clear hin hn h
  go_enter Try.func38, Try.ntmps38
  go_wp2_with (fail)
  simp only [run_makeMap, Result.andThen]
  obtain ⟨W1, hW1⟩ : ∃ W1, W1 = w.alloc (.map #[] 0) := ⟨_, rfl⟩
  obtain ⟨M, hM⟩ : ∃ M, M = w.heap.size := ⟨_, rfl⟩
  have HM0 := hid (show RowsM (frL (l.take 0)) w.heap.size M W1 by rw [hW1, hM]; exact RowsM.nil (heap_alloc_new w (.map #[] 0)))
  have HB0 := hid (show Below w.heap.size w W1 by rw [hW1]; (repeat (first | exact Below.refl _ _ | exact below_drewN _ | refine Below.drew ?_ | refine Below.alloc ?_ (by simp) _ | refine Below.setCell ?_ (by simp) _ | refine below_drewN' ?_ _)))
  have HMM := hid hM
  rw [← hW1, ← hM]
  clear hW1 hM
  go_wp2_with (fail)
  go_loopw [9] (fun iv wr => ∃ k : Nat, k ≤ n ∧ iv = .int .i64 k ∧ Hid (Below w.heap.size w wr) ∧ Hid (RowsM (frL (l.take k)) w.heap.size M wr)) (fun iv _ => n - (intOf iv).toNat)
  case atStart => exact ⟨0, by omega, rfl, HB0.out, HM0.out⟩
  case round =>
    obtain ⟨k, hk, rfl, hbel, hmc⟩ := hrel
    by_cases hlt : k < n
    · obtain ⟨av0, cap0, hv0, -, -, c0⟩ := HSG.out
      injection hv0 with hv1 hv2 hv3
      subst hv1 hv3
      rcases c0 with hc | ⟨b1, o1, rfl, hb1, c1⟩
      · have := HSG.out.cap_ge
        have := HN.out
        omega
      have hb1' := hb1 (by have := HN.out; omega)
      obtain ⟨d1, d2, d3⟩ := c1 k (by have := HN.out; omega)
      have d1 := (hbel.out.cell (p := ⟨b1, o1 + k * 3, none⟩) hb1').trans d1
      have d2 := (hbel.out.cell (p := ⟨b1, o1 + k * 3 + 1, none⟩) hb1').trans d2
      have d3 := (hbel.out.cell (p := ⟨b1, o1 + k * 3 + 2, none⟩) hb1').trans d3
      obtain ⟨i1, i2⟩ := HIN.out k (by have := HN.out; omega)
      have HUP := hid (fun (c : Int) => (show frL (l.take (k + 1)) c = frL (l.take k) c ++ (if (l.getD k noRg).v = c ∧ c ≠ 0 then [(l.getD k noRg).t] else []) from by rw [take_snoc11 (by have := HN.out; omega), frL_snoc]))
      have HLEN := hid (fun c => (show (frL (l.take k) c).length ≤ 1000 from Nat.le_trans (frL_len _ _) (by rw [List.length_take]; omega)))
      clear c1 hv2
      generalize l.getD k noRg = r at d1 d2 d3 i1 i2 HUP
      obtain ⟨rf, rt, rv⟩ := r
      simp only at d1 d2 d3 i1 i2 HUP
      have HI := hid (And.intro i1 i2)
      clear i1 i2
      have HBX := hid (Box.made wr 55 [.int .i64 rf, .int .i64 rt, .int .i64 rv])
      have HBW := hid (show Below wr.heap.size wr (wr.alloc (.cells #[.int .i64 rf, .int .i64 rt, .int .i64 rv] 55)) from (Below.refl _ _).alloc (Nat.le_refl _) _)
      by_cases hz : rv = 0
      · have HS2 := hid (fun c => (show frL (l.take (k + 1)) c = frL (l.take k) c from by rw [HUP.out c, if_neg (by rintro ⟨e, h⟩; exact h (e.symm.trans hz)), List.append_nil]))
        subst hz
        go_wp2_with (fail)
        go_roundw
        case rel => exact ⟨k + 1, by omega, by go_num, hbel.out.trans (HBW.out.mono hbel.out.size), (hmc.out.below HBW.out).congr fun c => (HS2.out c).symm⟩
        case measure => simp [intOf]; omega
      · have e1 : (rv != 0) = true := by simpa using hz
        have HS2 := hid (fun c => (show (if c = rv then frL (l.take k) rv ++ [rt] else frL (l.take k) c) = frL (l.take (k + 1)) c from by
          rw [HUP.out c]
          by_cases hc : c = rv
          · subst hc
            rw [if_pos rfl, if_pos ⟨rfl, hz⟩]
          · rw [if_neg hc, if_neg (fun h => hc h.1.symm), List.append_nil]))
        clear hz
        go_wp2_with (fail)
        have HB := hid (hbel.out.trans (HBW.out.mono hbel.out.size))
        have HBB := hid (show w.heap.size ≤ wr.heap.size from hbel.out.size)
        have HM1 := hid (hmc.out.below HBW.out)
        obtain ⟨B, hBv⟩ : ∃ B, B = wr.heap.size := ⟨_, rfl⟩
        obtain ⟨W, hW⟩ : ∃ W, W = wr.alloc (.cells #[.int .i64 rf, .int .i64 rt, .int .i64 rv] 55) := ⟨_, rfl⟩
        rw [← hBv] at HBX HBB
        rw [← hW] at HB HM1
        have HX1 : Hid (Box 55 [.int .i64 rf, .int .i64 rt, .int .i64 rv] B W) := hid (by rw [hW]; exact HBX.out)
        rw [← hW, ← hBv]
        clear HBX HBW hW hBv d1 d2 d3
        refine wp_region_held (S := (fun w' => w'.cell? ⟨B, 1, none⟩ = some (.int .i64 rt) ∧ w'.cell? ⟨B, 2, none⟩ = some (.int .i64 rv))) (by kernel_rfl) ?_
        have HBD := hid ((Below.refl W.heap.size W).drew)
        have HB2 := hid (HB.out.trans (HBD.out.mono HB.out.size))
        have HM2 := hid (HM1.out.below HBD.out)
        have HX2 := hid (HX1.out.below HBD.out HX1.out.lt)
        change wpAnyH _ _ _ _ _ _ _ _ W.drew
        generalize W.drew = V at HB2 HM2 HX2 ⊢
        clear HBD HB HM1 HX1
        have HSS := hid (fun w' (h : Box 55 [.int .i64 rf, .int .i64 rt, .int .i64 rv] B w') => (show w'.cell? ⟨B, 1, none⟩ = some (.int .i64 rt) ∧ w'.cell? ⟨B, 2, none⟩ = some (.int .i64 rv) from ⟨h.cell 1, h.cell 2⟩))
        have HSD := hid (HSS.out V HX2.out)
        obtain ⟨vr, hlook, hor, hlo⟩ := rowsM_look (P := Try.prog) (T := 51) (k := 3) (e := 22) HM2.out Try.underlying51 Try.underlying3 (fun w' => by kernel_rfl) HI.out.2
        have HLK := hid hlook
        have HOR := hid hor
        have HLO := hid hlo
        clear hlook hor hlo
        refine wpAnyH_take (i := 0) (v := .map (some M)) rfl (by kernel_rfl) (by kernel_rfl) (by kernel_rfl) (fun _ _ _ h => h) (.inl ⟨by rfl, fun _ hS => exec_move rfl rfl⟩) HSD.out ?_
        refine wpAnyH_take (i := 1) (v := .pointer (some ⟨B, 2, none⟩)) rfl (by kernel_rfl) (by kernel_rfl) (by kernel_rfl) (fun _ _ _ h => h) (.inl ⟨by rfl, fun _ hS => by go_simp⟩) HSD.out ?_
        refine wpAnyH_take (i := 2) (v := .int .i64 rv) rfl (by kernel_rfl) (by kernel_rfl) (by kernel_rfl) (fun _ _ _ h => h) (.inl ⟨by rfl, fun _ hS => exec_int rfl rfl hS.2⟩) HSD.out ?_
        refine wpAnyH_take (i := 3) (v := .map (some M)) rfl (by kernel_rfl) (by kernel_rfl) (by kernel_rfl) (fun _ _ _ h => h) (.inl ⟨by rfl, fun _ hS => exec_move rfl rfl⟩) HSD.out ?_
        refine wpAnyH_take (i := 4) (v := .pointer (some ⟨B, 2, none⟩)) rfl (by kernel_rfl) (by kernel_rfl) (by kernel_rfl) (fun _ _ _ h => h) (.inl ⟨by rfl, fun _ hS => by go_simp⟩) HSD.out ?_
        refine wpAnyH_take (i := 5) (v := .int .i64 rv) rfl (by kernel_rfl) (by kernel_rfl) (by kernel_rfl) (fun _ _ _ h => h) (.inl ⟨by rfl, fun _ hS => exec_int rfl rfl hS.2⟩) HSD.out ?_
        refine wpAnyH_take (i := 7) (v := .pointer (some ⟨B, 1, none⟩)) rfl (by kernel_rfl) (by kernel_rfl) (by kernel_rfl) (fun _ _ _ h => h) (.inl ⟨by rfl, fun _ hS => by go_simp⟩) HSD.out ?_
        refine wpAnyH_take (i := 8) (v := .int .i64 rt) rfl (by kernel_rfl) (by kernel_rfl) (by kernel_rfl) (fun _ _ _ h => h) (.inl ⟨by rfl, fun _ hS => exec_int rfl rfl hS.1⟩) HSD.out ?_
        simp only [Act.put, List.getElem_toArray, List.getElem_cons_zero, List.getElem_cons_succ, List.setIfInBounds_toArray, List.set_cons_succ, List.set_cons_zero]
        have HA := hid (show Below V.heap.size V (V.alloc (.cells #[.int .i64 rt] 3)) from (Below.refl _ _).alloc (Nat.le_refl _) _)
        have HX3 := hid (HX2.out.below HA.out HX2.out.lt)
        refine anyH_pair (i := 6) (j := 9) (vi := vr) (vj := .slice (some ⟨V.heap.size, 0, none⟩) 1 1) (w' := V.alloc (.cells #[.int .i64 rt] 3)) rfl rfl rfl rfl (by decide) (fun d hd e => by cases hd; cases e) (by kernel_rfl) (by kernel_rfl) (by kernel_rfl) (exec_lookRow rfl rfl rfl (HLK.out _ rfl)) (exec_lookRow rfl rfl rfl (HLK.out _ (HA.out.block _ HM2.out.lt))) (exec_buildI rfl rfl) (exec_buildI rfl rfl) HSD.out (HSS.out _ HX3.out) ?_
        simp only [Act.put, List.getElem_toArray, List.getElem_cons_zero, List.getElem_cons_succ, List.setIfInBounds_toArray, List.set_cons_succ, List.set_cons_zero]
        have HO3 := hid (HOR.out.below HA.out)
        have HL3 := hid (HLO.out.below HA.out)
        have HB3 := hid (HB2.out.trans (HA.out.mono HB2.out.size))
        have hc3 : (V.alloc (.cells #[.int .i64 rt] 3)).cell? ⟨V.heap.size, 0, none⟩ = some (.int .i64 rt) := (Box.made V 3 [.int .i64 rt]).cell 0
        have HC3 := hid hc3
        generalize V.heap.size = G at HC3 ⊢
        generalize V.alloc (.cells #[.int .i64 rt] 3) = U at HC3 HO3 HL3 HB3 HX3 ⊢
        refine anyH_app (i := 10) (by kernel_rfl) rfl rfl rfl rfl HO3.out rfl HC3.out (by have := HLEN.out rv; omega) HB3.out.size ?_
        intro v4 w4 ho4 hg4 hx4
        have HX4 := hid (HX3.out.grown HO3.out hg4 (by decide))
        have HL4 := hid (HL3.out.grown HO3.out hg4 hx4)
        have HB4 := hid (HB3.out.grown hg4 HB3.out.size (fun r e => (World.ownsRow.lt HO3.out r e).1))
        have HO4 := hid ho4
        refine ⟨HSS.out _ HX4.out, ?_⟩
        simp only [Act.put, List.getElem_toArray, List.getElem_cons_zero, List.getElem_cons_succ, List.setIfInBounds_toArray, List.set_cons_succ, List.set_cons_zero]
        obtain ⟨w5, hst, hg5, hm5⟩ := looseR_store (P := Try.prog) (T := 51) (k := 3) (e := 22) HL4.out HO4.out Try.underlying51 Try.underlying3 HI.out.2
        have HX5 := hid (show Box 55 [.int .i64 rf, .int .i64 rt, .int .i64 rv] B w5 from (hg5.block B HX4.out.lt (fun e => by
          have e' : B = M := by simpa using e
          exact HL4.out.nobox HX4.out e')).trans HX4.out)
        refine anyH_store (i := 11) (by kernel_rfl) rfl rfl rfl rfl rfl rfl rfl hst (HSS.out _ HX5.out) ?_
        refine wpAnyH_done (by kernel_rfl) ?_ _
        have HM5 := hid (hm5.congr fun c => HS2.out c)
        have HB5 := hid (HB4.out.grown hg5 HB4.out.size (fun r e => by injection e with e; have := HMM.out; omega))
        clear hst hg5 hm5 hg4 hx4 ho4 hc3
        go_wp2_with (fail)
        go_roundw
        case rel => exact ⟨k + 1, by omega, by go_num, HB5.out, HM5.out⟩
        case measure => simp [intOf]; omega
    · obtain rfl : k = n := by omega
      go_wp2_with (fail)
      go_ret
      exact ⟨_, rfl, by have := HMM.out; omega, by have := hmc.out; rwa [List.take_of_length_le (by have := HN.out; omega)] at this, hbel.out⟩
end Go.Proofs.Ytimbchkoomjhkaa
