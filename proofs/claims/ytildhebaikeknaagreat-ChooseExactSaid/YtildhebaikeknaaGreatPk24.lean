/- Several texts in one: ApiCodes. -/
import Derived.Test.YtildhebaikeknaaGreatPk1
import Derived.Test.YtildhebaikeknaaGreatPk14
/-! ApiCodes -/
namespace Go.Proofs.YtildhebaikeknaaGreat
open Go.RowKit

theorem OwnG.farB {e base : Nat} {w : World} {v : Value} {l : List Rg} (h : OwnG e base w v l) {B : Nat} (hB : B < base) (j : Nat) (u : Value) : OwnG e base (w.setCell ⟨B, j, none⟩ u) v l := by
  obtain ⟨h1, h2⟩ := h
  refine ⟨h1, ?_⟩
  rcases h2 with h2 | ⟨g, cap, cur, hv, hg, hh, r⟩
  · exact .inl h2
  · refine .inr ⟨g, cap, cur, hv, hg, ?_, r⟩
    show (w.setCell ⟨B, j, none⟩ u).heap[g]? = _
    rw [← hh]
    simp [World.setCell, Array.getElem?_modify]
    omega

/-- the variable holds rows that the call itself made -/
def VarG (B : Nat) (w : World) (l : List Rg) : Prop := ∃ a c, Box 32 [.slice a l.length c] B w ∧ OwnG 46 (B + 1) w (.slice a l.length c) l
theorem VarG.below {B : Nat} {w w' : World} {l : List Rg} (h : VarG B w l) (hb : Below w.heap.size w w') : VarG B w' l := by
  obtain ⟨a, c, h1, h2⟩ := h
  exact ⟨a, c, h1.below hb h1.lt, h2.below hb⟩
theorem VarG.lt {B : Nat} {w : World} {l : List Rg} (h : VarG B w l) : B < w.heap.size := by
  obtain ⟨a, c, h1, h2⟩ := h
  exact h1.lt
/-- what stands behind an append and its store -/
theorem varG_stored {B : Nat} {W w6 : World} {l : List Rg} {a6 : Option Addr} {n6 c6 : Nat} {u : Value} (hx : Box 32 [u] B W) (hb : Below (B + 1) W w6) (ho : OwnG 46 (B + 1) w6 (.slice a6 n6 c6) l) (hn : n6 = l.length) : VarG B (w6.setCell ⟨B, 0, none⟩ (.slice a6 n6 c6)) l := by
  subst hn
  have h1 := hx.below hb (Nat.lt_succ_self B)
  exact ⟨a6, c6, h1.set 0 _, ho.farB (Nat.lt_succ_self B) _ _⟩
theorem Tryz.infoCd : (Tryz.prog.info? 46).map (fun i => (i.zero, i.size, i.bytes)) = some (some (.agg #[.int .i64 0, .int .i64 0, .int .i64 0]), 3, 24) := by kernel_rfl

theorem apiSets (w : World) : Calls Tryz.prog 14 #[] w fun e w' => ∃ v, e = .returned v ∧ Own .i64 3 w.heap.size w' v tabSets ∧ Below w.heap.size w w' := by
  go_enter Tryz.func14, Tryz.ntmps14
  go_wp2_with (fail)
  go_ret
  exact ⟨_, rfl, lit_own rfl (Nat.le_refl _) rfl rfl (by decide), by (repeat (first | exact Below.refl _ _ | exact below_drewN _ | refine Below.drew ?_ | refine Below.alloc ?_ (by simp) _ | refine Below.setCell ?_ (by simp) _ | refine below_drewN' ?_ _))⟩
theorem apiAccents (w : World) : Calls Tryz.prog 13 #[] w fun e w' => ∃ v, e = .returned v ∧ OwnG 49 w.heap.size w' v tabAccents ∧ Below w.heap.size w w' := by
  go_enter Tryz.func13, Tryz.ntmps13
  go_wp2_with (fail)
  go_ret
  exact ⟨_, rfl, ownG_made (l := tabAccents) rfl rfl (Nat.le_refl _) rfl (by decide), by (repeat (first | exact Below.refl _ _ | exact below_drewN _ | refine Below.drew ?_ | refine Below.alloc ?_ (by simp) _ | refine Below.setCell ?_ (by simp) _ | refine below_drewN' ?_ _))⟩
theorem apiFinal (s : Int) (w : World) : Calls Tryz.prog 91 #[.int .i64 s] w fun e w' => e = .returned (.int .i64 (finalS s)) ∧ w = w' := by
  unfold finalS
  by_cases h6 : s = 6
  · subst h6
    go_enter Tryz.func91, Tryz.ntmps91
    go_wp2
    go_ret
    exact ⟨rfl, rfl⟩
  rw [if_neg h6]
  have e6 : (s == 6) = false := by simp [h6]
  by_cases h87 : s = 87
  · subst h87
    go_enter Tryz.func91, Tryz.ntmps91
    go_wp2
    go_ret
    exact ⟨rfl, rfl⟩
  rw [if_neg h87]
  have e87 : (s == 87) = false := by simp [h87]
  by_cases h102 : s = 102
  · subst h102
    go_enter Tryz.func91, Tryz.ntmps91
    go_wp2
    go_ret
    exact ⟨rfl, rfl⟩
  rw [if_neg h102]
  have e102 : (s == 102) = false := by simp [h102]
  by_cases h103 : s = 103
  · subst h103
    go_enter Tryz.func91, Tryz.ntmps91
    go_wp2
    go_ret
    exact ⟨rfl, rfl⟩
  rw [if_neg h103]
  have e103 : (s == 103) = false := by simp [h103]
  by_cases h126 : s = 126
  · subst h126
    go_enter Tryz.func91, Tryz.ntmps91
    go_wp2
    go_ret
    exact ⟨rfl, rfl⟩
  rw [if_neg h126]
  have e126 : (s == 126) = false := by simp [h126]
  by_cases h138 : s = 138
  · subst h138
    go_enter Tryz.func91, Tryz.ntmps91
    go_wp2
    go_ret
    exact ⟨rfl, rfl⟩
  rw [if_neg h138]
  have e138 : (s == 138) = false := by simp [h138]
  by_cases h144 : s = 144
  · subst h144
    go_enter Tryz.func91, Tryz.ntmps91
    go_wp2
    go_ret
    exact ⟨rfl, rfl⟩
  rw [if_neg h144]
  have e144 : (s == 144) = false := by simp [h144]
  clear h6 h87 h102 h103 h126 h138 h144
  go_enter Tryz.func91, Tryz.ntmps91
  go_wp2
  go_ret
  exact ⟨rfl, rfl⟩

set_option maxHeartbeats 4000000 in
theorem codePut (set frm : Int) (s : ByteArray) (B : Nat) (l : List Rg) (w : World) (hs : s.size ≤ 1000) (hf0 : 0 ≤ frm) (hf1 : frm ≤ 1000) (h : VarG B w l) (hl : l.length ≤ 10000) :
    Calls Tryz.prog 21 #[.int .i64 set, .int .i64 frm, .string s, .pointer (some ⟨B, 0, none⟩)] w fun e w' => e = .returned (.tuple #[]) ∧ VarG B w' (l ++ codeR set frm (runesS s)) ∧ Below B w w' := by
  obtain ⟨i0, hi0, hz0, hz1, hz2⟩ := info_parts Tryz.infoCd
  have HR := hid (fun w => apiRunes s w (by omega))
  have hrl := runesS_len s
  obtain ⟨rs, hrs⟩ : ∃ rs, rs = runesS s := ⟨_, rfl⟩
  rw [← hrs] at HR hrl ⊢
  obtain ⟨n, hn⟩ : ∃ n, n = rs.length := ⟨_, rfl⟩
  have HN := hid hn
  have hn1 : n ≤ 1000 := by omega
  have HV := hid h
  have HL := hid hl
  clear hrs hn hrl hs h hl
  go_enter Tryz.func21, Tryz.ntmps21
  go_wp2_with (go_at_call 22; refine (HR.out _).mono ?_; rintro e w1 ⟨v1, rfl, ho1, hb1⟩; obtain ⟨a1, c1, hv1⟩ := ho1.sl.form; rw [← HN.out] at hv1; subst hv1; have HO1 := hid ho1; have HB1 := hid hb1; clear ho1 hb1)
  go_loopw [12] (fun iv wr => ∃ j : Nat, j ≤ n ∧ iv = .int .i64 j ∧ Hid (VarG B wr (l ++ codeR set frm (rs.take j))) ∧ Hid (Own .i64 3 w.heap.size wr (.slice a1 n c1) rs) ∧ Hid (Below B w wr)) (fun iv _ => n - (intOf iv).toNat)
  case atStart => exact ⟨0, Nat.zero_le _, rfl, by show VarG B w1 (l ++ []); rw [List.append_nil]; exact HV.out.below HB1.out, HO1.out, HB1.out.mono (Nat.le_of_lt HV.out.lt)⟩
  case round =>
    obtain ⟨j, hj, rfl, hvar, hrow, hbel⟩ := hrel
    by_cases hlt : j < n
    · obtain ⟨a4, c4, he4, q4, -, h4⟩ := hrow.out.sl
      injection he4 with he4 he4n he4c
      subst he4 he4c
      rcases h4 with h4 | ⟨b4, o4, rfl, hb4, y4⟩
      · omega
      have y4 := y4 j (by omega)
      have HNX := hid (codeR_next (set := set) (p := frm) (l := rs) (j := j) (by omega))
      have hlL := hid (show (l ++ codeR set frm (rs.take j)).length ≤ 11000 by
        rw [List.length_append]
        have := codeR_len set frm (rs.take j)
        rw [List.length_take] at this
        have := HL.out
        omega)
      clear he4n q4 hb4
      generalize rs.getD j 0 = c at y4 HNX
      obtain ⟨M, hM⟩ : ∃ M, M = l ++ codeR set frm (rs.take j) := ⟨_, rfl⟩
      rw [← hM] at hvar hlL
      by_cases hc : c = 32
      · subst hc
        have HNX2 := hid (show l ++ codeR set frm (rs.take (j + 1)) = M by rw [HNX.out, if_pos rfl, List.append_nil, hM])
        clear HNX hM hlL
        go_wp2
        go_roundw
        case rel => exact ⟨j + 1, by omega, by go_num, by show VarG B wr _; rw [HNX2.out]; exact hvar.out, hrow.out, hbel.out⟩
        case measure => simp [intOf]; omega
      · have hc2 : (c != 32) = true := by simp [hc]
        have HNX2 := hid (show l ++ codeR set frm (rs.take (j + 1)) = M ++ [⟨set, frm + (j : Int), c⟩] by rw [HNX.out, if_neg hc, ← List.append_assoc, hM])
        obtain ⟨av, cv, hbox0, hown0⟩ := hvar.out
        have hbox := hid hbox0
        have hown := hid hown0
        obtain ⟨nm, hnm⟩ : ∃ nm, nm = M.length := ⟨_, rfl⟩
        rw [← hnm] at hbox hown hlL
        have HNM := hid hnm
        have hlm := hlL.out
        have x0 := hbox.out.cell 0
        simp only [List.getElem?_cons_zero] at x0
        clear HNX hM hc hnm hlL hbox0 hown0
        go_wp2_with (at_builtin; go_loud (refine wpList_appGK _ rfl _ _ 32 rfl (B + 1) 46 24 i0 (.agg #[.int .i64 0, .int .i64 0, .int .i64 0]) Tryz.underlying32 hi0 hz0 hz1 hz2 rfl _ M nm HNM.out rfl (hown.out.below (by (repeat (first | exact Below.refl _ _ | exact below_drewN _ | refine Below.drew ?_ | refine Below.alloc ?_ (by first | omega | (simp; done) | (simp; omega)) _ | refine Below.setCell ?_ (by first | (simp; done) | (simp; omega)) _ | refine below_drewN' ?_ _)))) wr.heap.size ⟨set, frm + (j : Int), c⟩ rfl ⟨by rw [cell_of_row _ wr.heap.size 0 _ 46 (0, 0) (heap_alloc_new _ _)]; rfl, by rw [cell_of_row _ wr.heap.size 1 _ 46 (0, 0) (heap_alloc_new _ _)]; rfl, by rw [cell_of_row _ wr.heap.size 2 _ 46 (0, 0) (heap_alloc_new _ _)]; rfl⟩ (by unfold maxLen; omega) (by omega) (by have := hbel.out.size; have := hbox.out.lt; simp; omega) ?_); intro v6 w6 ho6 hg6 hb6; obtain ⟨a6, c6, hv6⟩ := ho6.form; rw [List.length_append, ← HNM.out] at hv6; simp only [List.length_cons, List.length_nil, Nat.zero_add] at hv6; subst hv6; have hb7 := Below.alloc (Below.refl wr.heap.size wr) (Nat.le_refl _) (.cells #[.int .i64 set, .int .i64 (frm + (j : Int)), .int .i64 c] 46); have hr7 := hown.out.below hb7; have HX6 := hid (box_grown hr7 (hbox.out.below hb7 hbox.out.lt) (by decide) hg6); have HR6 := hid (own_row hr7 (hrow.out.below hb7) (by decide) hg6); have x6 := HX6.out.cell 0; have f6 := HX6.out.ice 0; simp only [List.getElem?_cons_zero] at x6; have HO6 := hid ho6; have HB6 := hid hb6; have HB7 := hid hb7; clear ho6 hg6 hb6 hb7 hr7)
        go_roundw
        case rel =>
          refine ⟨j + 1, by omega, by go_num, ?_, HR6.out.set HX6.out (by decide) _ _, ?_⟩
          · show VarG B _ _
            rw [HNX2.out]
            exact varG_stored HX6.out (Below.refl _ _) HO6.out (by rw [List.length_append, ← HNM.out]; rfl)
          · exact (hbel.out.trans ((HB7.out.mono (Nat.le_of_lt hbox.out.lt)).trans (HB6.out.mono (Nat.le_succ B)))).setCell (by simp) _
        case measure => simp [intOf]; omega
    · obtain rfl : j = n := by omega
      have e1 : rs.take j = rs := by rw [HN.out, List.take_length]
      rw [e1] at hvar
      clear e1
      go_wp2
      go_end0
      exact ⟨rfl, hvar.out, hbel.out⟩
end Go.Proofs.YtildhebaikeknaaGreat
