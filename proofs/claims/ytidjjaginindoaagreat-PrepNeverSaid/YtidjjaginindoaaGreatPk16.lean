/- Several texts in one: ApiCodes, ApiCodes2. -/
import Derived.Test.YtidjjaginindoaaGreatPk11
import Derived.Test.YtidjjaginindoaaGreatPk9
/-! ApiCodes -/
namespace Go.Proofs.YtidjjaginindoaaGreat
open Go.RowKit

theorem OwnG.farB {e base : Nat} {w : World} {v : Value} {l : List Rg} (h : OwnG e base w v l) {B : Nat} (hB : B < base) (j : Nat) (u : Value) : OwnG e base (w.setCell ⟨B, j, none⟩ u) v l := by
  obtain ⟨h1, h2⟩ := h
  refine ⟨h1, ?_⟩
  rcases h2 with h2 | ⟨g, cap, cur, hv, hg, hh, r⟩
  · exact .inl h2
  · refine .inr ⟨g, cap, cur, hv, hg, ?_, r⟩
    show (w.setCell ⟨B, j, none⟩ u).heap[g]? = _
    rw [← hh]
    simp [World.setCell, Array.getElem?_modify]
    omega

/-- the variable holds rows that the call itself made -/
def VarG (B : Nat) (w : World) (l : List Rg) : Prop := ∃ a c, Box 80 [.slice a l.length c] B w ∧ OwnG 105 (B + 1) w (.slice a l.length c) l
theorem VarG.below {B : Nat} {w w' : World} {l : List Rg} (h : VarG B w l) (hb : Below w.heap.size w w') : VarG B w' l := by
  obtain ⟨a, c, h1, h2⟩ := h
  exact ⟨a, c, h1.below hb h1.lt, h2.below hb⟩
theorem VarG.lt {B : Nat} {w : World} {l : List Rg} (h : VarG B w l) : B < w.heap.size := by
  obtain ⟨a, c, h1, h2⟩ := h
  exact h1.lt
/-- what stands behind an append and its store -/
theorem varG_stored {B : Nat} {W w6 : World} {l : List Rg} {a6 : Option Addr} {n6 c6 : Nat} {u : Value} (hx : Box 80 [u] B W) (hb : Below (B + 1) W w6) (ho : OwnG 105 (B + 1) w6 (.slice a6 n6 c6) l) (hn : n6 = l.length) : VarG B (w6.setCell ⟨B, 0, none⟩ (.slice a6 n6 c6)) l := by
  subst hn
  have h1 := hx.below hb (Nat.lt_succ_self B)
  exact ⟨a6, c6, h1.set 0 _, ho.farB (Nat.lt_succ_self B) _ _⟩
theorem Tryz.infoCd : (Tryz.prog.info? 105).map (fun i => (i.zero, i.size, i.bytes)) = some (some (.agg #[.int .i64 0, .int .i64 0, .int .i64 0]), 3, 24) := by kernel_rfl

theorem apiSets (w : World) : Calls Tryz.prog 62 #[] w fun e w' => ∃ v, e = .returned v ∧ Own .i64 3 w.heap.size w' v tabSets ∧ Below w.heap.size w w' := by
  go_enter Tryz.func62, Tryz.ntmps62
  go_wp2_with (fail)
  go_ret
  exact ⟨_, rfl, lit_own rfl (Nat.le_refl _) rfl rfl (by decide), by (repeat (first | exact Below.refl _ _ | exact below_drewN _ | refine Below.drew ?_ | refine Below.alloc ?_ (by simp) _ | refine Below.setCell ?_ (by simp) _ | refine below_drewN' ?_ _))⟩
theorem apiAccents (w : World) : Calls Tryz.prog 61 #[] w fun e w' => ∃ v, e = .returned v ∧ OwnG 66 w.heap.size w' v tabAccents ∧ Below w.heap.size w w' := by
  go_enter Tryz.func61, Tryz.ntmps61
  go_wp2_with (fail)
  go_ret
  exact ⟨_, rfl, ownG_made (l := tabAccents) rfl rfl (Nat.le_refl _) rfl (by decide), by (repeat (first | exact Below.refl _ _ | exact below_drewN _ | refine Below.drew ?_ | refine Below.alloc ?_ (by simp) _ | refine Below.setCell ?_ (by simp) _ | refine below_drewN' ?_ _))⟩
set_option maxHeartbeats 4000000 in
theorem codePut (set frm : Int) (s : ByteArray) (B : Nat) (l : List Rg) (w : World) (hs : s.size ≤ 1000) (hf0 : 0 ≤ frm) (hf1 : frm ≤ 1000) (h : VarG B w l) (hl : l.length ≤ 10000) :
    Calls Tryz.prog 86 #[.int .i64 set, .int .i64 frm, .string s, .pointer (some ⟨B, 0, none⟩)] w fun e w' => e = .returned (.tuple #[]) ∧ VarG B w' (l ++ codeR set frm (runesS s)) ∧ Below B w w' := by
  obtain ⟨i0, hi0, hz0, hz1, hz2⟩ := info_parts Tryz.infoCd
  have HR := hid (fun w => apiRunes s w (by omega))
  have hrl := runesS_len s
  obtain ⟨rs, hrs⟩ : ∃ rs, rs = runesS s := ⟨_, rfl⟩
  rw [← hrs] at HR hrl ⊢
  obtain ⟨n, hn⟩ : ∃ n, n = rs.length := ⟨_, rfl⟩
  have HN := hid hn
  have hn1 : n ≤ 1000 := by omega
  have HV := hid h
  have HL := hid hl
  clear hrs hn hrl hs h hl
  go_enter Tryz.func86, Tryz.ntmps86
  go_wp2_with (go_at_call 85; refine (HR.out _).mono ?_; rintro e w1 ⟨v1, rfl, ho1, hb1⟩; obtain ⟨a1, c1, hv1⟩ := ho1.sl.form; rw [← HN.out] at hv1; subst hv1; have HO1 := hid ho1; have HB1 := hid hb1; clear ho1 hb1)
  go_loopw [12] (fun iv wr => ∃ j : Nat, j ≤ n ∧ iv = .int .i64 j ∧ Hid (VarG B wr (l ++ codeR set frm (rs.take j))) ∧ Hid (Own .i64 3 w.heap.size wr (.slice a1 n c1) rs) ∧ Hid (Below B w wr)) (fun iv _ => n - (intOf iv).toNat)
  case atStart => exact ⟨0, Nat.zero_le _, rfl, by show VarG B w1 (l ++ []); rw [List.append_nil]; exact HV.out.below HB1.out, HO1.out, HB1.out.mono (Nat.le_of_lt HV.out.lt)⟩
  case round =>
    obtain ⟨j, hj, rfl, hvar, hrow, hbel⟩ := hrel
    by_cases hlt : j < n
    · obtain ⟨a4, c4, he4, q4, -, h4⟩ := hrow.out.sl
      injection he4 with he4 he4n he4c
      subst he4 he4c
      rcases h4 with h4 | ⟨b4, o4, rfl, hb4, y4⟩
      · omega
      have y4 := y4 j (by omega)
      have HNX := hid (codeR_next (set := set) (p := frm) (l := rs) (j := j) (by omega))
      have hlL := hid (show (l ++ codeR set frm (rs.take j)).length ≤ 11000 by
        rw [List.length_append]
        have := codeR_len set frm (rs.take j)
        rw [List.length_take] at this
        have := HL.out
        omega)
      clear he4n q4 hb4
      generalize rs.getD j 0 = c at y4 HNX
      obtain ⟨M, hM⟩ : ∃ M, M = l ++ codeR set frm (rs.take j) := ⟨_, rfl⟩
      rw [← hM] at hvar hlL
      by_cases hc : c = 32
      · subst hc
        have HNX2 := hid (show l ++ codeR set frm (rs.take (j + 1)) = M by rw [HNX.out, if_pos rfl, List.append_nil, hM])
        clear HNX hM hlL
        go_wp2
        go_roundw
        case rel => exact ⟨j + 1, by omega, by go_num, by show VarG B wr _; rw [HNX2.out]; exact hvar.out, hrow.out, hbel.out⟩
        case measure => simp [intOf]; omega
      · have hc2 : (c != 32) = true := by simp [hc]
        have HNX2 := hid (show l ++ codeR set frm (rs.take (j + 1)) = M ++ [⟨set, frm + (j : Int), c⟩] by rw [HNX.out, if_neg hc, ← List.append_assoc, hM])
        obtain ⟨av, cv, hbox0, hown0⟩ := hvar.out
        have hbox := hid hbox0
        have hown := hid hown0
        obtain ⟨nm, hnm⟩ : ∃ nm, nm = M.length := ⟨_, rfl⟩
        rw [← hnm] at hbox hown hlL
        have HNM := hid hnm
        have hlm := hlL.out
        have x0 := hbox.out.cell 0
        simp only [List.getElem?_cons_zero] at x0
        clear HNX hM hc hnm hlL hbox0 hown0
        go_wp2_with (at_builtin; go_loud (refine wpList_appGK _ rfl _ _ 80 rfl (B + 1) 105 24 i0 (.agg #[.int .i64 0, .int .i64 0, .int .i64 0]) Tryz.underlying80 hi0 hz0 hz1 hz2 rfl _ M nm HNM.out rfl (hown.out.below (by (repeat (first | exact Below.refl _ _ | exact below_drewN _ | refine Below.drew ?_ | refine Below.alloc ?_ (by first | omega | (simp; done) | (simp; omega)) _ | refine Below.setCell ?_ (by first | (simp; done) | (simp; omega)) _ | refine below_drewN' ?_ _)))) wr.heap.size ⟨set, frm + (j : Int), c⟩ rfl ⟨by rw [cell_of_row _ wr.heap.size 0 _ 105 (0, 0) (heap_alloc_new _ _)]; rfl, by rw [cell_of_row _ wr.heap.size 1 _ 105 (0, 0) (heap_alloc_new _ _)]; rfl, by rw [cell_of_row _ wr.heap.size 2 _ 105 (0, 0) (heap_alloc_new _ _)]; rfl⟩ (by unfold maxLen; omega) (by omega) (by have := hbel.out.size; have := hbox.out.lt; simp; omega) ?_); intro v6 w6 ho6 hg6 hb6; obtain ⟨a6, c6, hv6⟩ := ho6.form; rw [List.length_append, ← HNM.out] at hv6; simp only [List.length_cons, List.length_nil, Nat.zero_add] at hv6; subst hv6; have hb7 := Below.alloc (Below.refl wr.heap.size wr) (Nat.le_refl _) (.cells #[.int .i64 set, .int .i64 (frm + (j : Int)), .int .i64 c] 105); have hr7 := hown.out.below hb7; have HX6 := hid (box_grown hr7 (hbox.out.below hb7 hbox.out.lt) (by decide) hg6); have HR6 := hid (own_row hr7 (hrow.out.below hb7) (by decide) hg6); have x6 := HX6.out.cell 0; have f6 := HX6.out.ice 0; simp only [List.getElem?_cons_zero] at x6; have HO6 := hid ho6; have HB6 := hid hb6; have HB7 := hid hb7; clear ho6 hg6 hb6 hb7 hr7)
        go_roundw
        case rel =>
          refine ⟨j + 1, by omega, by go_num, ?_, HR6.out.set HX6.out (by decide) _ _, ?_⟩
          · show VarG B _ _
            rw [HNX2.out]
            exact varG_stored HX6.out (Below.refl _ _) HO6.out (by rw [List.length_append, ← HNM.out]; rfl)
          · exact (hbel.out.trans ((HB7.out.mono (Nat.le_of_lt hbox.out.lt)).trans (HB6.out.mono (Nat.le_succ B)))).setCell (by simp) _
        case measure => simp [intOf]; omega
    · obtain rfl : j = n := by omega
      have e1 : rs.take j = rs := by rw [HN.out, List.take_length]
      rw [e1] at hvar
      clear e1
      go_wp2
      go_end0
      exact ⟨rfl, hvar.out, hbel.out⟩
end Go.Proofs.YtidjjaginindoaaGreat

/-! ApiCodes2 -/
namespace Go.Proofs.YtidjjaginindoaaGreat
open Go.RowKit

theorem code_more {l : List Rg} {set p : Int} {s : ByteArray} {k : Nat} (h : l.length ≤ k) (hs : s.size ≤ 1000) : (l ++ codeR set p (runesS s)).length ≤ k + 1000 := by
  rw [List.length_append]
  have := codeR_len set p (runesS s)
  have := runesS_len s
  omega
theorem varG_start (w : World) : VarG w.heap.size (w.alloc (.cells #[.slice none 0 0] 80)) [] := ⟨none, 0, Box.made _ _ _, OwnG.nil _ _ _⟩

set_option maxRecDepth 10000 in
set_option maxHeartbeats 8000000 in
theorem apiCodes (w : World) : Calls Tryz.prog 60 #[] w fun e w' => ∃ v, e = .returned v ∧ OwnG 105 w.heap.size w' v tabCodes ∧ Below w.heap.size w w' := by
  obtain ⟨i0, hi0, hz0, hz1, hz2⟩ := info_parts Tryz.infoCd
  have HD0 := hid (codes1_len 94)
  go_enter Tryz.func60, Tryz.ntmps60
  go_wp2
  go_loopw [2] (fun iv wr => ∃ i : Nat, i ≤ 94 ∧ iv = .int .i64 (33 + (i : Int)) ∧ Hid (VarG w.heap.size wr (codes1 i)) ∧ Hid (Below w.heap.size w wr)) (fun iv _ => 127 - (intOf iv).toNat)
  case atStart => exact ⟨0, Nat.zero_le _, rfl, varG_start w, (Below.refl _ _).alloc (Nat.le_refl _) _⟩
  case round =>
    obtain ⟨i, hi, rfl, hvar, hbel⟩ := hrel
    by_cases hlt : i < 94
    · obtain ⟨b, hbi⟩ : ∃ b : Int, b = 33 + (i : Int) := ⟨_, rfl⟩
      have hb0 : 33 ≤ b := by omega
      have hb1 : b ≤ 126 := by omega
      rw [← hbi]
      have HBI := hid hbi
      clear hbi
      obtain ⟨av, cv, hbox0, hown0⟩ := hvar.out
      have hbox := hid hbox0
      have hown := hid hown0
      obtain ⟨nm, hnm⟩ : ∃ nm, nm = (codes1 i).length := ⟨_, rfl⟩
      have hlm : nm ≤ 10000 := by rw [hnm]; exact (by have := codes1_len i; omega)
      rw [← hnm] at hbox hown
      have HNM := hid hnm
      have x := hbox.out.cell 0
      simp only [List.getElem?_cons_zero] at x
      clear hnm hbox0 hown0
      go_upto_region 7 with (at_builtin; go_loud (refine wpList_appGK _ rfl _ _ 80 rfl ((w.heap.size + 1)) 105 24 i0 (.agg #[.int .i64 0, .int .i64 0, .int .i64 0]) Tryz.underlying80 hi0 hz0 hz1 hz2 rfl _ (codes1 i) nm HNM.out rfl (hown.out.below (by (repeat (first | exact Below.refl _ _ | exact below_drewN _ | refine Below.drew ?_ | refine Below.alloc ?_ (by first | omega | (simp; done) | (simp; omega)) _ | refine Below.setCell ?_ (by first | (simp; done) | (simp; omega)) _ | refine below_drewN' ?_ _)))) wr.heap.size ⟨6, b, b⟩ rfl ⟨by rw [cell_of_row _ wr.heap.size 0 _ 105 (0, 0) (heap_alloc_new _ _)]; rfl, by rw [cell_of_row _ wr.heap.size 1 _ 105 (0, 0) (heap_alloc_new _ _)]; rfl, by rw [cell_of_row _ wr.heap.size 2 _ 105 (0, 0) (heap_alloc_new _ _)]; rfl⟩ (by unfold maxLen; omega) (by omega) (by have := hbel.out.size; have := hbox.out.lt; simp; omega) ?_); intro v6 w6 ho6 hg6 hb6; obtain ⟨a6, c6, hv6⟩ := ho6.form; rw [List.length_append, ← HNM.out] at hv6; simp only [List.length_cons, List.length_nil, Nat.zero_add] at hv6; subst hv6; have hb7 := Below.alloc (Below.refl wr.heap.size wr) (Nat.le_refl _) (.cells #[.int .i64 (6), .int .i64 (b), .int .i64 (b)] 105); have hr7 := hown.out.below hb7; have HX6 := hid (box_grown hr7 (hbox.out.below hb7 hbox.out.lt) (by decide) hg6); have x6 := HX6.out.cell 0; have f6 := HX6.out.ice 0; simp only [List.getElem?_cons_zero] at x6; have HO6 := hid ho6; have HB6 := hid hb6; have HQ6 := hid hb7; clear ho6 hg6 hb6 hb7 hr7)
      have HV6 := hid (varG_stored (l := codes1 i ++ [⟨6, b, b⟩]) HX6.out (Below.refl _ _) HO6.out (by rw [List.length_append, ← HNM.out]; rfl))
      have HE6 := hid (show Below w.heap.size w (w6.setCell ⟨w.heap.size, 0, none⟩ (.slice a6 (nm + 1) c6)) from (hbel.out.trans ((HQ6.out.mono hbel.out.size).trans (HB6.out.mono (Nat.le_succ _)))).setCell (Nat.le_refl _) _)
      obtain ⟨W7, hW7⟩ : ∃ W, W = w6.setCell ⟨w.heap.size, 0, none⟩ (.slice a6 (nm + 1) c6) := ⟨_, rfl⟩
      rw [← hW7] at HV6 HE6 ⊢
      have HV7 := HV6
      have HE7 := HE6
      clear hW7 HV6 HE6 HX6 HO6 HB6 HQ6 x6 f6 hbox hown HNM x
      by_cases k36 : b = 36
      · have HNX := hid (show codes1 (i + 1) = (codes1 i ++ ([⟨6, b, b⟩] : List Rg)) ++ [⟨102, b, 164⟩] by rw [codes1_next, ← HBI.out, List.append_assoc]; exact congrArg (codes1 i ++ ·) (show codeB b = [⟨6, b, b⟩] ++ [⟨102, b, 164⟩] from (by unfold codeB; rw [if_pos k36]; rfl)))
        have HB2 := hid (show b + 1 = 33 + ((i + 1 : Nat) : Int) by have := HBI.out; omega)
        obtain ⟨avz, cvz, hbox0, hown0⟩ := HV7.out
        have hboxz := hid hbox0
        have hownz := hid hown0
        obtain ⟨nmz, hnm⟩ : ∃ nm, nm = (codes1 i ++ ([⟨6, b, b⟩] : List Rg)).length := ⟨_, rfl⟩
        have hlmz : nmz ≤ 10000 := by rw [hnm]; exact (by rw [List.length_append]; have := codes1_len i; simp; omega)
        rw [← hnm] at hboxz hownz
        have HNMz := hid hnm
        have xz := hboxz.out.cell 0
        simp only [List.getElem?_cons_zero] at xz
        clear hnm hbox0 hown0
        have kk : (b == 36) = true := by simp [k36]
        clear k36
        go_wp2_with (at_builtin; go_loud (refine wpList_appGK _ rfl _ _ 80 rfl ((w.heap.size + 1)) 105 24 i0 (.agg #[.int .i64 0, .int .i64 0, .int .i64 0]) Tryz.underlying80 hi0 hz0 hz1 hz2 rfl _ (codes1 i ++ ([⟨6, b, b⟩] : List Rg)) nmz HNMz.out rfl (hownz.out.below (by (repeat (first | exact Below.refl _ _ | exact below_drewN _ | refine Below.drew ?_ | refine Below.alloc ?_ (by first | omega | (simp; done) | (simp; omega)) _ | refine Below.setCell ?_ (by first | (simp; done) | (simp; omega)) _ | refine below_drewN' ?_ _)))) W7.heap.size ⟨102, b, 164⟩ rfl ⟨by rw [cell_of_row _ W7.heap.size 0 _ 105 (0, 0) (heap_alloc_new _ _)]; rfl, by rw [cell_of_row _ W7.heap.size 1 _ 105 (0, 0) (heap_alloc_new _ _)]; rfl, by rw [cell_of_row _ W7.heap.size 2 _ 105 (0, 0) (heap_alloc_new _ _)]; rfl⟩ (by unfold maxLen; omega) (by omega) (by have := HE7.out.size; have := hboxz.out.lt; simp; omega) ?_); intro v8 w8 ho8 hg8 hb8; obtain ⟨a8, c8, hv8⟩ := ho8.form; rw [List.length_append, ← HNMz.out] at hv8; simp only [List.length_cons, List.length_nil, Nat.zero_add] at hv8; subst hv8; have hb7 := Below.alloc (Below.refl W7.heap.size W7) (Nat.le_refl _) (.cells #[.int .i64 (102), .int .i64 (b), .int .i64 (164)] 105); have hr7 := hownz.out.below hb7; have HX8 := hid (box_grown hr7 (hboxz.out.below hb7 hboxz.out.lt) (by decide) hg8); have x8 := HX8.out.cell 0; have f8 := HX8.out.ice 0; simp only [List.getElem?_cons_zero] at x8; have HO8 := hid ho8; have HB8 := hid hb8; have HQ8 := hid hb7; clear ho8 hg8 hb8 hb7 hr7)
        have HV8 := hid (varG_stored (l := (codes1 i ++ ([⟨6, b, b⟩] : List Rg)) ++ [⟨102, b, 164⟩]) HX8.out (Below.refl _ _) HO8.out (by rw [List.length_append, ← HNMz.out]; rfl))
        have HE8 := hid (show Below w.heap.size w (w8.setCell ⟨w.heap.size, 0, none⟩ (.slice a8 (nmz + 1) c8)) from (HE7.out.trans ((HQ8.out.mono HE7.out.size).trans (HB8.out.mono (Nat.le_succ _)))).setCell (Nat.le_refl _) _)
        go_roundw
        case rel => exact ⟨i + 1, by omega, (by rw [HB2.out]), by show VarG _ _ _; rw [HNX.out]; exact HV8.out, HE8.out⟩
        case measure => simp [intOf]; omega
      have q36 : (b == 36) = false := by simp [k36]
      by_cases k92 : b = 92
      · have HNX := hid (show codes1 (i + 1) = codes1 i ++ ([⟨6, b, b⟩] : List Rg) by rw [codes1_next, ← HBI.out]; exact congrArg (codes1 i ++ ·) (show codeB b = [⟨6, b, b⟩] from (by unfold codeB; rw [if_neg k36, if_pos (by omega)])))
        have HB2 := hid (show b + 1 = 33 + ((i + 1 : Nat) : Int) by have := HBI.out; omega)
        have kk : (b == 92) = true := by simp [k92]
        clear k36 k92
        go_wp2
        go_roundw
        case rel => exact ⟨i + 1, by omega, (by rw [HB2.out]), by show VarG _ _ _; rw [HNX.out]; exact HV7.out, HE7.out⟩
        case measure => simp [intOf]; omega
      have q92 : (b == 92) = false := by simp [k92]
      by_cases k94 : b = 94
      · have HNX := hid (show codes1 (i + 1) = codes1 i ++ ([⟨6, b, b⟩] : List Rg) by rw [codes1_next, ← HBI.out]; exact congrArg (codes1 i ++ ·) (show codeB b = [⟨6, b, b⟩] from (by unfold codeB; rw [if_neg k36, if_pos (by omega)])))
        have HB2 := hid (show b + 1 = 33 + ((i + 1 : Nat) : Int) by have := HBI.out; omega)
        have kk : (b == 94) = true := by simp [k94]
        clear k36 k92 k94
        go_wp2
        go_roundw
        case rel => exact ⟨i + 1, by omega, (by rw [HB2.out]), by show VarG _ _ _; rw [HNX.out]; exact HV7.out, HE7.out⟩
        case measure => simp [intOf]; omega
      have q94 : (b == 94) = false := by simp [k94]
      by_cases k96 : b = 96
      · have HNX := hid (show codes1 (i + 1) = codes1 i ++ ([⟨6, b, b⟩] : List Rg) by rw [codes1_next, ← HBI.out]; exact congrArg (codes1 i ++ ·) (show codeB b = [⟨6, b, b⟩] from (by unfold codeB; rw [if_neg k36, if_pos (by omega)])))
        have HB2 := hid (show b + 1 = 33 + ((i + 1 : Nat) : Int) by have := HBI.out; omega)
        have kk : (b == 96) = true := by simp [k96]
        clear k36 k92 k94 k96
        go_wp2
        go_roundw
        case rel => exact ⟨i + 1, by omega, (by rw [HB2.out]), by show VarG _ _ _; rw [HNX.out]; exact HV7.out, HE7.out⟩
        case measure => simp [intOf]; omega
      have q96 : (b == 96) = false := by simp [k96]
      by_cases k124 : b = 124
      · have HNX := hid (show codes1 (i + 1) = (codes1 i ++ ([⟨6, b, b⟩] : List Rg)) ++ [⟨102, b, b⟩] by rw [codes1_next, ← HBI.out, List.append_assoc]; exact congrArg (codes1 i ++ ·) (show codeB b = [⟨6, b, b⟩] ++ [⟨102, b, b⟩] from (by unfold codeB; rw [if_neg k36, if_neg (by omega)]; rfl)))
        have HB2 := hid (show b + 1 = 33 + ((i + 1 : Nat) : Int) by have := HBI.out; omega)
        obtain ⟨avz, cvz, hbox0, hown0⟩ := HV7.out
        have hboxz := hid hbox0
        have hownz := hid hown0
        obtain ⟨nmz, hnm⟩ : ∃ nm, nm = (codes1 i ++ ([⟨6, b, b⟩] : List Rg)).length := ⟨_, rfl⟩
        have hlmz : nmz ≤ 10000 := by rw [hnm]; exact (by rw [List.length_append]; have := codes1_len i; simp; omega)
        rw [← hnm] at hboxz hownz
        have HNMz := hid hnm
        have xz := hboxz.out.cell 0
        simp only [List.getElem?_cons_zero] at xz
        clear hnm hbox0 hown0
        have kk : (b != 124) = false := by simp [k124]
        have k9 : 123 ≤ b := by omega
        clear k36 k92 k94 k96 k124
        go_wp2_with (at_builtin; go_loud (refine wpList_appGK _ rfl _ _ 80 rfl ((w.heap.size + 1)) 105 24 i0 (.agg #[.int .i64 0, .int .i64 0, .int .i64 0]) Tryz.underlying80 hi0 hz0 hz1 hz2 rfl _ (codes1 i ++ ([⟨6, b, b⟩] : List Rg)) nmz HNMz.out rfl (hownz.out.below (by (repeat (first | exact Below.refl _ _ | exact below_drewN _ | refine Below.drew ?_ | refine Below.alloc ?_ (by first | omega | (simp; done) | (simp; omega)) _ | refine Below.setCell ?_ (by first | (simp; done) | (simp; omega)) _ | refine below_drewN' ?_ _)))) W7.heap.size ⟨102, b, b⟩ rfl ⟨by rw [cell_of_row _ W7.heap.size 0 _ 105 (0, 0) (heap_alloc_new _ _)]; rfl, by rw [cell_of_row _ W7.heap.size 1 _ 105 (0, 0) (heap_alloc_new _ _)]; rfl, by rw [cell_of_row _ W7.heap.size 2 _ 105 (0, 0) (heap_alloc_new _ _)]; rfl⟩ (by unfold maxLen; omega) (by omega) (by have := HE7.out.size; have := hboxz.out.lt; simp; omega) ?_); intro v8 w8 ho8 hg8 hb8; obtain ⟨a8, c8, hv8⟩ := ho8.form; rw [List.length_append, ← HNMz.out] at hv8; simp only [List.length_cons, List.length_nil, Nat.zero_add] at hv8; subst hv8; have hb7 := Below.alloc (Below.refl W7.heap.size W7) (Nat.le_refl _) (.cells #[.int .i64 (102), .int .i64 (b), .int .i64 (b)] 105); have hr7 := hownz.out.below hb7; have HX8 := hid (box_grown hr7 (hboxz.out.below hb7 hboxz.out.lt) (by decide) hg8); have x8 := HX8.out.cell 0; have f8 := HX8.out.ice 0; simp only [List.getElem?_cons_zero] at x8; have HO8 := hid ho8; have HB8 := hid hb8; have HQ8 := hid hb7; clear ho8 hg8 hb8 hb7 hr7)
        have HV8 := hid (varG_stored (l := (codes1 i ++ ([⟨6, b, b⟩] : List Rg)) ++ [⟨102, b, b⟩]) HX8.out (Below.refl _ _) HO8.out (by rw [List.length_append, ← HNMz.out]; rfl))
        have HE8 := hid (show Below w.heap.size w (w8.setCell ⟨w.heap.size, 0, none⟩ (.slice a8 (nmz + 1) c8)) from (HE7.out.trans ((HQ8.out.mono HE7.out.size).trans (HB8.out.mono (Nat.le_succ _)))).setCell (Nat.le_refl _) _)
        go_roundw
        case rel => exact ⟨i + 1, by omega, (by rw [HB2.out]), by show VarG _ _ _; rw [HNX.out]; exact HV8.out, HE8.out⟩
        case measure => simp [intOf]; omega
      have q124 : (b != 124) = true := by simp [k124]
      by_cases k123 : 123 ≤ b
      · have HNX := hid (show codes1 (i + 1) = codes1 i ++ ([⟨6, b, b⟩] : List Rg) by rw [codes1_next, ← HBI.out]; exact congrArg (codes1 i ++ ·) (show codeB b = [⟨6, b, b⟩] from (by unfold codeB; rw [if_neg k36, if_pos (by omega)])))
        have HB2 := hid (show b + 1 = 33 + ((i + 1 : Nat) : Int) by have := HBI.out; omega)
        clear k36 k92 k94 k96 k124
        go_wp2
        go_roundw
        case rel => exact ⟨i + 1, by omega, (by rw [HB2.out]), by show VarG _ _ _; rw [HNX.out]; exact HV7.out, HE7.out⟩
        case measure => simp [intOf]; omega
      have HNX := hid (show codes1 (i + 1) = (codes1 i ++ ([⟨6, b, b⟩] : List Rg)) ++ [⟨102, b, b⟩] by rw [codes1_next, ← HBI.out, List.append_assoc]; exact congrArg (codes1 i ++ ·) (show codeB b = [⟨6, b, b⟩] ++ [⟨102, b, b⟩] from (by unfold codeB; rw [if_neg k36, if_neg (by omega)]; rfl)))
      have HB2 := hid (show b + 1 = 33 + ((i + 1 : Nat) : Int) by have := HBI.out; omega)
      obtain ⟨avz, cvz, hbox0, hown0⟩ := HV7.out
      have hboxz := hid hbox0
      have hownz := hid hown0
      obtain ⟨nmz, hnm⟩ : ∃ nm, nm = (codes1 i ++ ([⟨6, b, b⟩] : List Rg)).length := ⟨_, rfl⟩
      have hlmz : nmz ≤ 10000 := by rw [hnm]; exact (by rw [List.length_append]; have := codes1_len i; simp; omega)
      rw [← hnm] at hboxz hownz
      have HNMz := hid hnm
      have xz := hboxz.out.cell 0
      simp only [List.getElem?_cons_zero] at xz
      clear hnm hbox0 hown0
      clear k36 k92 k94 k96 k124
      go_wp2_with (at_builtin; go_loud (refine wpList_appGK _ rfl _ _ 80 rfl ((w.heap.size + 1)) 105 24 i0 (.agg #[.int .i64 0, .int .i64 0, .int .i64 0]) Tryz.underlying80 hi0 hz0 hz1 hz2 rfl _ (codes1 i ++ ([⟨6, b, b⟩] : List Rg)) nmz HNMz.out rfl (hownz.out.below (by (repeat (first | exact Below.refl _ _ | exact below_drewN _ | refine Below.drew ?_ | refine Below.alloc ?_ (by first | omega | (simp; done) | (simp; omega)) _ | refine Below.setCell ?_ (by first | (simp; done) | (simp; omega)) _ | refine below_drewN' ?_ _)))) W7.heap.size ⟨102, b, b⟩ rfl ⟨by rw [cell_of_row _ W7.heap.size 0 _ 105 (0, 0) (heap_alloc_new _ _)]; rfl, by rw [cell_of_row _ W7.heap.size 1 _ 105 (0, 0) (heap_alloc_new _ _)]; rfl, by rw [cell_of_row _ W7.heap.size 2 _ 105 (0, 0) (heap_alloc_new _ _)]; rfl⟩ (by unfold maxLen; omega) (by omega) (by have := HE7.out.size; have := hboxz.out.lt; simp; omega) ?_); intro v8 w8 ho8 hg8 hb8; obtain ⟨a8, c8, hv8⟩ := ho8.form; rw [List.length_append, ← HNMz.out] at hv8; simp only [List.length_cons, List.length_nil, Nat.zero_add] at hv8; subst hv8; have hb7 := Below.alloc (Below.refl W7.heap.size W7) (Nat.le_refl _) (.cells #[.int .i64 (102), .int .i64 (b), .int .i64 (b)] 105); have hr7 := hownz.out.below hb7; have HX8 := hid (box_grown hr7 (hboxz.out.below hb7 hboxz.out.lt) (by decide) hg8); have x8 := HX8.out.cell 0; have f8 := HX8.out.ice 0; simp only [List.getElem?_cons_zero] at x8; have HO8 := hid ho8; have HB8 := hid hb8; have HQ8 := hid hb7; clear ho8 hg8 hb8 hb7 hr7)
      have HV8 := hid (varG_stored (l := (codes1 i ++ ([⟨6, b, b⟩] : List Rg)) ++ [⟨102, b, b⟩]) HX8.out (Below.refl _ _) HO8.out (by rw [List.length_append, ← HNMz.out]; rfl))
      have HE8 := hid (show Below w.heap.size w (w8.setCell ⟨w.heap.size, 0, none⟩ (.slice a8 (nmz + 1) c8)) from (HE7.out.trans ((HQ8.out.mono HE7.out.size).trans (HB8.out.mono (Nat.le_succ _)))).setCell (Nat.le_refl _) _)
      go_roundw
      case rel => exact ⟨i + 1, by omega, (by rw [HB2.out]), by show VarG _ _ _; rw [HNX.out]; exact HV8.out, HE8.out⟩
      case measure => simp [intOf]; omega
    · obtain rfl : i = 94 := by omega
      have HC0 := hvar
      have HF0 := hbel
      clear hvar hbel hi hlt
      go_wp2_with (first
        | (have _u := HC4; clear _u; go_at_call 86; go_loud (refine (codePut 138 96 str16_4 w.heap.size _ _ (by decide) (by decide) (by decide) HC4.out (by have := HD4.out; omega)).mono ?_); rintro e w25 ⟨rfl, hv, hb⟩; have HC5 := hid hv; have HF5 := hid (HF4.out.trans hb); have HD5 := hid (code_more (set := 138) (p := 96) (s := str16_4) HD4.out (by decide)); clear hv hb)
        | (have _u := HC3; clear _u; go_at_call 86; go_loud (refine (codePut 144 33 str16_3 w.heap.size _ _ (by decide) (by decide) (by decide) HC3.out (by have := HD3.out; omega)).mono ?_); rintro e w24 ⟨rfl, hv, hb⟩; have HC4 := hid hv; have HF4 := hid (HF3.out.trans hb); have HD4 := hid (code_more (set := 144) (p := 33) (s := str16_3) HD3.out (by decide)); clear hv hb)
        | (have _u := HC2; clear _u; go_at_call 86; go_loud (refine (codePut 126 65 str16_2 w.heap.size _ _ (by decide) (by decide) (by decide) HC2.out (by have := HD2.out; omega)).mono ?_); rintro e w23 ⟨rfl, hv, hb⟩; have HC3 := hid hv; have HF3 := hid (HF2.out.trans hb); have HD3 := hid (code_more (set := 126) (p := 65) (s := str16_2) HD2.out (by decide)); clear hv hb)
        | (have _u := HC1; clear _u; go_at_call 86; go_loud (refine (codePut 103 96 str16_1 w.heap.size _ _ (by decide) (by decide) (by decide) HC1.out (by have := HD1.out; omega)).mono ?_); rintro e w22 ⟨rfl, hv, hb⟩; have HC2 := hid hv; have HF2 := hid (HF1.out.trans hb); have HD2 := hid (code_more (set := 103) (p := 96) (s := str16_1) HD1.out (by decide)); clear hv hb)
        | (have _u := HC0; clear _u; go_at_call 86; go_loud (refine (codePut 103 33 str16_0 w.heap.size _ _ (by decide) (by decide) (by decide) HC0.out (by have := HD0.out; omega)).mono ?_); rintro e w21 ⟨rfl, hv, hb⟩; have HC1 := hid hv; have HF1 := hid (HF0.out.trans hb); have HD1 := hid (code_more (set := 103) (p := 33) (s := str16_0) HD0.out (by decide)); clear hv hb))
      obtain ⟨L2, hL2⟩ : ∃ L, L = codes2 := ⟨_, rfl⟩
      have HC := hid (show VarG w.heap.size w25 L2 by rw [hL2]; exact HC5.out)
      have HL2 := hid (show L2.length ≤ 5200 by rw [hL2]; exact Nat.le_trans HD5.out (by decide))
      have HE2 := hid hL2
      have HF := HF5
      clear hL2 HC0 HC1 HC2 HC3 HC4 HC5 HF0 HF1 HF2 HF3 HF4 HF5 HD0 HD1 HD2 HD3 HD4 HD5
      go_loopw [54] (fun iv wr => ∃ j : Nat, j ≤ 83 ∧ iv = .int .i64 j ∧ Hid (VarG w.heap.size wr (L2 ++ kana j 9249 12353)) ∧ Hid (Below w.heap.size w wr)) (fun iv _ => 83 - (intOf iv).toNat)
      case atStart => exact ⟨0, Nat.zero_le _, rfl, by show VarG _ _ (L2 ++ []); rw [List.append_nil]; exact HC.out, HF.out⟩
      case round =>
        obtain ⟨j, hj, rfl, hvar, hbel⟩ := hrel
        by_cases hlt : j < 83
        · have HNX := hid (show L2 ++ kana (j + 1) 9249 12353 = (L2 ++ kana j 9249 12353) ++ [⟨87, 9249 + (j : Int), 12353 + (j : Int)⟩] by rw [kana_next, List.append_assoc])
          obtain ⟨av, cv, hbox0, hown0⟩ := hvar.out
          have hbox := hid hbox0
          have hown := hid hown0
          obtain ⟨nm, hnm⟩ : ∃ nm, nm = (L2 ++ kana j 9249 12353).length := ⟨_, rfl⟩
          have hlm : nm ≤ 10000 := by rw [hnm]; exact (by rw [List.length_append, kana_len]; have := HL2.out; omega)
          rw [← hnm] at hbox hown
          have HNM := hid hnm
          have x := hbox.out.cell 0
          simp only [List.getElem?_cons_zero] at x
          clear hnm hbox0 hown0
          go_wp2_with (at_builtin; go_loud (refine wpList_appGK _ rfl _ _ 80 rfl ((w.heap.size + 1)) 105 24 i0 (.agg #[.int .i64 0, .int .i64 0, .int .i64 0]) Tryz.underlying80 hi0 hz0 hz1 hz2 rfl _ (L2 ++ kana j 9249 12353) nm HNM.out rfl (hown.out.below (by (repeat (first | exact Below.refl _ _ | exact below_drewN _ | refine Below.drew ?_ | refine Below.alloc ?_ (by first | omega | (simp; done) | (simp; omega)) _ | refine Below.setCell ?_ (by first | (simp; done) | (simp; omega)) _ | refine below_drewN' ?_ _)))) wr.heap.size ⟨87, 9249 + (j : Int), 12353 + (j : Int)⟩ rfl ⟨by rw [cell_of_row _ wr.heap.size 0 _ 105 (0, 0) (heap_alloc_new _ _)]; rfl, by rw [cell_of_row _ wr.heap.size 1 _ 105 (0, 0) (heap_alloc_new _ _)]; rfl, by rw [cell_of_row _ wr.heap.size 2 _ 105 (0, 0) (heap_alloc_new _ _)]; rfl⟩ (by unfold maxLen; omega) (by omega) (by have := hbel.out.size; have := hbox.out.lt; simp; omega) ?_); intro v6 w6 ho6 hg6 hb6; obtain ⟨a6, c6, hv6⟩ := ho6.form; rw [List.length_append, ← HNM.out] at hv6; simp only [List.length_cons, List.length_nil, Nat.zero_add] at hv6; subst hv6; have hb7 := Below.alloc (Below.refl wr.heap.size wr) (Nat.le_refl _) (.cells #[.int .i64 (87), .int .i64 (9249 + (j : Int)), .int .i64 (12353 + (j : Int))] 105); have hr7 := hown.out.below hb7; have HX6 := hid (box_grown hr7 (hbox.out.below hb7 hbox.out.lt) (by decide) hg6); have x6 := HX6.out.cell 0; have f6 := HX6.out.ice 0; simp only [List.getElem?_cons_zero] at x6; have HO6 := hid ho6; have HB6 := hid hb6; have HQ6 := hid hb7; clear ho6 hg6 hb6 hb7 hr7)
          have HV6 := hid (varG_stored (l := (L2 ++ kana j 9249 12353) ++ [⟨87, 9249 + (j : Int), 12353 + (j : Int)⟩]) HX6.out (Below.refl _ _) HO6.out (by rw [List.length_append, ← HNM.out]; rfl))
          have HE6 := hid (show Below w.heap.size w (w6.setCell ⟨w.heap.size, 0, none⟩ (.slice a6 (nm + 1) c6)) from (hbel.out.trans ((HQ6.out.mono hbel.out.size).trans (HB6.out.mono (Nat.le_succ _)))).setCell (Nat.le_refl _) _)
          go_roundw
          case rel => exact ⟨j + 1, by omega, by go_num, by show VarG _ _ _; rw [HNX.out]; exact HV6.out, HE6.out⟩
          case measure => simp [intOf]; omega
        · have e83 : j = 83 := by omega
          rw [e83] at hvar
          obtain ⟨L3, hL3⟩ : ∃ L, L = L2 ++ kana 83 9249 12353 := ⟨_, rfl⟩
          have HC3 := hid (show VarG w.heap.size wr L3 by rw [hL3]; exact hvar.out)
          have HL3 := hid (show L3.length ≤ 5300 by rw [hL3, List.length_append, kana_len]; have := HL2.out; omega)
          have HE3 := hid hL3
          have HF3 := hbel
          clear hL3 hvar hbel hj e83
          go_wp2
          go_loopw [66] (fun iv wr => ∃ j : Nat, j ≤ 86 ∧ iv = .int .i64 j ∧ Hid (VarG w.heap.size wr (L3 ++ kana j 9505 12449)) ∧ Hid (Below w.heap.size w wr)) (fun iv _ => 86 - (intOf iv).toNat)
          case atStart => exact ⟨0, Nat.zero_le _, rfl, by show VarG _ _ (L3 ++ []); rw [List.append_nil]; exact HC3.out, HF3.out⟩
          case round =>
            obtain ⟨j, hj, rfl, hvar, hbel⟩ := hrel
            by_cases hlt : j < 86
            · have HNX := hid (show L3 ++ kana (j + 1) 9505 12449 = (L3 ++ kana j 9505 12449) ++ [⟨87, 9505 + (j : Int), 12449 + (j : Int)⟩] by rw [kana_next, List.append_assoc])
              obtain ⟨av, cv, hbox0, hown0⟩ := hvar.out
              have hbox := hid hbox0
              have hown := hid hown0
              obtain ⟨nm, hnm⟩ : ∃ nm, nm = (L3 ++ kana j 9505 12449).length := ⟨_, rfl⟩
              have hlm : nm ≤ 10000 := by rw [hnm]; exact (by rw [List.length_append, kana_len]; have := HL3.out; omega)
              rw [← hnm] at hbox hown
              have HNM := hid hnm
              have x := hbox.out.cell 0
              simp only [List.getElem?_cons_zero] at x
              clear hnm hbox0 hown0
              go_wp2_with (at_builtin; go_loud (refine wpList_appGK _ rfl _ _ 80 rfl ((w.heap.size + 1)) 105 24 i0 (.agg #[.int .i64 0, .int .i64 0, .int .i64 0]) Tryz.underlying80 hi0 hz0 hz1 hz2 rfl _ (L3 ++ kana j 9505 12449) nm HNM.out rfl (hown.out.below (by (repeat (first | exact Below.refl _ _ | exact below_drewN _ | refine Below.drew ?_ | refine Below.alloc ?_ (by first | omega | (simp; done) | (simp; omega)) _ | refine Below.setCell ?_ (by first | (simp; done) | (simp; omega)) _ | refine below_drewN' ?_ _)))) wr.heap.size ⟨87, 9505 + (j : Int), 12449 + (j : Int)⟩ rfl ⟨by rw [cell_of_row _ wr.heap.size 0 _ 105 (0, 0) (heap_alloc_new _ _)]; rfl, by rw [cell_of_row _ wr.heap.size 1 _ 105 (0, 0) (heap_alloc_new _ _)]; rfl, by rw [cell_of_row _ wr.heap.size 2 _ 105 (0, 0) (heap_alloc_new _ _)]; rfl⟩ (by unfold maxLen; omega) (by omega) (by have := hbel.out.size; have := hbox.out.lt; simp; omega) ?_); intro v6 w6 ho6 hg6 hb6; obtain ⟨a6, c6, hv6⟩ := ho6.form; rw [List.length_append, ← HNM.out] at hv6; simp only [List.length_cons, List.length_nil, Nat.zero_add] at hv6; subst hv6; have hb7 := Below.alloc (Below.refl wr.heap.size wr) (Nat.le_refl _) (.cells #[.int .i64 (87), .int .i64 (9505 + (j : Int)), .int .i64 (12449 + (j : Int))] 105); have hr7 := hown.out.below hb7; have HX6 := hid (box_grown hr7 (hbox.out.below hb7 hbox.out.lt) (by decide) hg6); have x6 := HX6.out.cell 0; have f6 := HX6.out.ice 0; simp only [List.getElem?_cons_zero] at x6; have HO6 := hid ho6; have HB6 := hid hb6; have HQ6 := hid hb7; clear ho6 hg6 hb6 hb7 hr7)
              have HV6 := hid (varG_stored (l := (L3 ++ kana j 9505 12449) ++ [⟨87, 9505 + (j : Int), 12449 + (j : Int)⟩]) HX6.out (Below.refl _ _) HO6.out (by rw [List.length_append, ← HNM.out]; rfl))
              have HE6 := hid (show Below w.heap.size w (w6.setCell ⟨w.heap.size, 0, none⟩ (.slice a6 (nm + 1) c6)) from (hbel.out.trans ((HQ6.out.mono hbel.out.size).trans (HB6.out.mono (Nat.le_succ _)))).setCell (Nat.le_refl _) _)
              go_roundw
              case rel => exact ⟨j + 1, by omega, by go_num, by show VarG _ _ _; rw [HNX.out]; exact HV6.out, HE6.out⟩
              case measure => simp [intOf]; omega
            · obtain rfl : j = 86 := by omega
              have HT := hid (show L3 ++ kana 86 9505 12449 = tabCodes by rw [HE3.out, HE2.out]; rfl)
              obtain ⟨av, cv, hbox, hown⟩ := hvar.out
              have HBX := hid hbox
              have HOW := hid (hown.mono (Nat.le_succ _))
              have x0 := HBX.out.cell 0
              simp only [List.getElem?_cons_zero] at x0
              obtain ⟨nv, hnv⟩ : ∃ nv, nv = (L3 ++ kana 86 9505 12449).length := ⟨_, rfl⟩
              rw [← hnv] at HBX HOW x0
              clear hbox hown hnv
              go_wp2
              go_ret
              exact ⟨_, rfl, by rw [← HT.out]; exact HOW.out, hbel.out⟩
end Go.Proofs.YtidjjaginindoaaGreat
