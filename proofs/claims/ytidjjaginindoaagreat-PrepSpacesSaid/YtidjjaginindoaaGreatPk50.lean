/- Several texts in one: SpFacts, LawSpaces21. -/
import Derived.Test.YtidjjaginindoaaGreatPk49
import Derived.Test.YtidjjaginindoaaGreatPk25
import Derived.Test.YtidjjaginindoaaGreatPk30
import Derived.Test.YtidjjaginindoaaGreatPk46
import Derived.Test.YtidjjaginindoaaGreatPk3
import Derived.Deep.RegionHeld3
import Derived.BigQuiet
import Derived.Deep.CutBlock
/-! SpFacts -/
namespace Go.Proofs.YtidjjaginindoaaGreat
open Go.RowKit

theorem map_160 : mapR 1 160 = [32] := by decide +kernel
theorem map_32 : mapR 1 32 = [32] := by decide +kernel
def gapA : Option Nat → List Int
  | none => []
  | some _ => [32]
def gapB : Option Nat → List Int
  | none => []
  | some k => 32 :: List.replicate k 32
theorem pieceA_gap (c : Int) (g : Option Nat) : pieceA (c, g) = gapA g ++ [c] := by cases g <;> rfl
theorem pieceB_gap (c : Int) (g : Option Nat) : pieceB (c, g) = gapB g ++ [c] := by cases g <;> rfl
/-- behind i letters, with a gap behind them -/
def SpG (e i : Nat) (g : Option Nat) (A B : List Int) : Prop := ∃ L : List (Int × Option Nat), (∀ x ∈ L, 97 ≤ x.1 ∧ x.1 ≤ 122) ∧ A = L.flatMap pieceA ++ gapA g ∧ mapP 1 B = List.replicate e 32 ++ (L.flatMap pieceB ++ gapB g) ∧ B.all inI = true ∧ A.length ≤ 2 * i + (gapA g).length ∧ B.length ≤ 4 + 6 * i + (gapB g).length
/-- digits, without spaces and with -/
def Dg (i h : Nat) (C D : List Int) : Prop := C.length ≤ i ∧ D.length + h ≤ 2 * i ∧ C.all easyB = true ∧ D.all easyB = true ∧ D.filter (fun x => x != 32) = C.filter (fun x => x != 32)
theorem rep_map (x : Int) (hx : mapR 1 x = [32]) : ∀ e, mapP 1 (List.replicate e x) = List.replicate e 32
  | 0 => rfl
  | e + 1 => by rw [List.replicate_succ, mapP_cons, rep_map x hx e, hx, List.replicate_succ]; rfl
theorem rep_all (x : Int) (hx : inI x = true) (e : Nat) : (List.replicate e x).all inI = true := by rw [List.all_eq_true]; intro c hc; rw [(List.mem_replicate.1 hc).2]; exact hx
theorem sp_start {e : Nat} (h : e ≤ 4) : SpG e 0 none [] (List.replicate e 32) :=
  ⟨[], (fun x hx => by cases hx), rfl, by rw [rep_map 32 map_32]; simp [gapB], rep_all 32 (by decide) e, by simp, by simp; omega⟩
theorem sp_some {e i : Nat} {A B : List Int} (h : SpG e i none A B) : SpG e i (some 0) (A ++ [32]) (B ++ [32]) := by
  obtain ⟨L, h1, h2, h3, h4, h5, h6⟩ := h
  refine ⟨L, h1, by rw [h2]; simp [gapA], ?_, by rw [List.all_append, h4]; rfl, by rw [List.length_append]; simp [gapA] at h5 ⊢; omega, by rw [List.length_append]; simp [gapB] at h6 ⊢; omega⟩
  rw [mapP_app, h3, show mapP 1 [32] = [32] from by rw [mapP_cons, map_32]; rfl]
  simp [gapB]
theorem sp_more {e i k : Nat} {A B : List Int} {x : Int} (h : SpG e i (some k) A B) (hx : mapR 1 x = [32]) (hi : inI x = true) : SpG e i (some (k + 1)) A (B ++ [x]) := by
  obtain ⟨L, h1, h2, h3, h4, h5, h6⟩ := h
  refine ⟨L, h1, h2, ?_, by rw [List.all_append, h4, List.all_cons, hi]; rfl, h5, by rw [List.length_append]; simp [gapB] at h6 ⊢; omega⟩
  rw [mapP_app, h3, show mapP 1 [x] = [32] from by rw [mapP_cons, hx]; rfl]
  simp [gapB, List.replicate_succ']
theorem sp_letter {e i : Nat} {g : Option Nat} {A B : List Int} {x : Int} (h : SpG e i g A B) (hx : 97 ≤ x ∧ x ≤ 122) (hg : (gapB g).length ≤ 5) : SpG e (i + 1) none (A ++ [x]) (B ++ [x]) := by
  obtain ⟨L, h1, h2, h3, h4, h5, h6⟩ := h
  have hm : mapR 1 x = [x] := (easy_of (c := x) (by unfold easyB; simp; omega)).2.2.2.1
  refine ⟨L ++ [(x, g)], fun y hy => ?_, ?_, ?_, ?_, ?_, ?_⟩
  · rcases List.mem_append.1 hy with hy | hy
    · exact h1 y hy
    · rw [List.mem_singleton.1 hy]; exact hx
  · rw [h2, List.flatMap_append, List.flatMap_cons, List.flatMap_nil, pieceA_gap]
    simp [gapA]
  · rw [mapP_app, h3, mapP_cons, hm, List.flatMap_append, List.flatMap_cons, List.flatMap_nil, pieceB_gap]
    simp [gapB, mapP]
  · rw [List.all_append, h4]
    have : inI x = true := inI_of (by omega)
    simp [this]
  · rw [List.length_append]
    have : (gapA g).length ≤ 1 := by cases g <;> simp [gapA]
    simp [gapA]
    omega
  · rw [List.length_append]
    simp [gapB]
    omega
theorem sp_len {e i : Nat} {g : Option Nat} {A B : List Int} (h : SpG e i g A B) : A.length ≤ 2 * i + 1 ∧ B.length ≤ 4 + 6 * i + (gapB g).length := by
  obtain ⟨L, h1, h2, h3, h4, h5, h6⟩ := h
  have : (gapA g).length ≤ 1 := by cases g <;> simp [gapA]
  exact ⟨by omega, h6⟩
theorem dg_start : Dg 0 0 [] [] := ⟨by simp, by simp, rfl, rfl, rfl⟩
theorem dg_put {i : Nat} {C D : List Int} {x : Int} (h : Dg i 0 C D) (hx : 48 ≤ x ∧ x ≤ 57) : Dg (i + 1) 1 (C ++ [x]) (D ++ [x]) := by
  obtain ⟨h1, h2, h3, h4, h5⟩ := h
  have he : easyB x = true := by unfold easyB; simp; omega
  refine ⟨by rw [List.length_append]; simp; omega, by rw [List.length_append]; simp; omega, ?_, ?_, ?_⟩
  · rw [List.all_append, h3]; simp [he]
  · rw [List.all_append, h4]; simp [he]
  · rw [List.filter_append, List.filter_append, h5]
theorem dg_sp {i : Nat} {C D : List Int} (h : Dg i 1 C D) : Dg i 0 C (D ++ [32]) := by
  obtain ⟨h1, h2, h3, h4, h5⟩ := h
  refine ⟨h1, by rw [List.length_append]; simp; omega, h3, ?_, ?_⟩
  · rw [List.all_append, h4]; rfl
  · rw [List.filter_append, h5]; simp
theorem dg_plain {i : Nat} {C D : List Int} (h : Dg i 1 C D) : Dg i 0 C D := by
  obtain ⟨h1, h2, h3, h4, h5⟩ := h
  exact ⟨h1, by omega, h3, h4, h5⟩
theorem easy_inI {s : List Int} (h : s.all easyB = true) : s.all inI = true := by
  rw [List.all_eq_true] at h ⊢
  intro c hc
  have := h c hc
  unfold easyB at this
  simp at this
  exact inI_of (by omega)
theorem spg_end {e i : Nat} {A B : List Int} (h : SpG e i none A B) (he : e ≤ 4) (hi : i ≤ 40) : A.all inI = true ∧ (B ++ List.replicate e 160).all inI = true ∧ A.length ≤ 100 ∧ (B ++ List.replicate e 160).length ≤ 300 ∧ sameP 1 A (B ++ List.replicate e 160) = (true, true) := by
  have hl := sp_len h
  obtain ⟨L, h1, h2, h3, h4, h5, h6⟩ := h
  simp only [gapA, gapB, List.append_nil] at h2 h3
  have eA : (L.flatMap pieceA).all easyB = true := by
    rw [List.all_eq_true]
    intro c hc
    obtain ⟨⟨x, g⟩, hx, hc⟩ := List.mem_flatMap.1 hc
    have hb := h1 _ hx
    rw [pieceA_gap] at hc
    rcases List.mem_append.1 hc with hc | hc
    · cases g with
      | none => cases hc
      | some k => rw [List.mem_singleton.1 hc]; rfl
    · rw [List.mem_singleton.1 hc]; unfold easyB; simp; simp at hb; omega
  have eB : (List.replicate e 32 ++ (L.flatMap pieceB ++ List.replicate e 32)).all easyB = true := by
    rw [List.all_eq_true]
    intro c hc
    rcases List.mem_append.1 hc with hc | hc
    · rw [(List.mem_replicate.1 hc).2]; rfl
    rcases List.mem_append.1 hc with hc | hc
    · obtain ⟨⟨x, g⟩, hx, hc⟩ := List.mem_flatMap.1 hc
      have hb := h1 _ hx
      rw [pieceB_gap] at hc
      rcases List.mem_append.1 hc with hc | hc
      · cases g with
        | none => cases hc
        | some k =>
          rcases List.mem_cons.1 hc with hc | hc
          · rw [hc]; rfl
          · rw [(List.mem_replicate.1 hc).2]; rfl
      · rw [List.mem_singleton.1 hc]; unfold easyB; simp; simp at hb; omega
    · rw [(List.mem_replicate.1 hc).2]; rfl
  have hm : mapP 1 (B ++ List.replicate e 160) = List.replicate e 32 ++ (L.flatMap pieceB ++ List.replicate e 32) := by
    rw [mapP_app, h3, rep_map 160 map_160, List.append_assoc]
  have hw : wordsE [] (List.replicate e 32 ++ (L.flatMap pieceB ++ List.replicate e 32)) = wordsE [] (L.flatMap pieceA) := by
    rw [wordsE_head, words_pieces L [] e fun x hx => by have := h1 x hx; omega]
  simp [gapB] at hl
  refine ⟨by rw [h2]; exact easy_inI eA, by rw [List.all_append, h4, rep_all 160 (by decide)]; rfl, by omega, by rw [List.length_append, List.length_replicate]; omega, ?_⟩
  rw [h2]
  exact same_spaces eA hm eB hw
theorem dg_end {i : Nat} {C D : List Int} (h : Dg i 0 C D) (hi : i ≤ 40) : C.all inI = true ∧ D.all inI = true ∧ C.length ≤ 100 ∧ D.length ≤ 300 ∧ sameP 3 C D = (true, true) := by
  obtain ⟨h1, h2, h3, h4, h5⟩ := h
  exact ⟨easy_inI h3, easy_inI h4, by omega, by omega, same_digits h3 h4 h5⟩
end Go.Proofs.YtidjjaginindoaaGreat

/-! LawSpaces21 -/
namespace Go.Proofs.YtidjjaginindoaaGreat
open Go.RowKit
set_option linter.unusedVariables false
theorem spaces_in : (tabSpaces.all fun r => (hasS tabSpaces r.f && !hasS tabNothing r.f) && inI r.f) = true := by decide +kernel
theorem spaces_len : 0 < tabSpaces.length ∧ tabSpaces.length ≤ 1000 := by decide
theorem spaces_map {r : Rg} (h : r ∈ tabSpaces) : mapR 1 r.f = [32] ∧ inI r.f = true := by
  have := List.all_eq_true.1 spaces_in r h
  simp only [Bool.and_eq_true, Bool.not_eq_true'] at this
  obtain ⟨⟨a, b⟩, c⟩ := this
  exact ⟨by unfold mapR; rw [b, a]; rfl, c⟩
theorem Four.start {base : Nat} {w : World} {v : Value} {B : List Int} (h : Own .i64 3 base w v B) : Four base w (.slice none 0 0) v (.slice none 0 0) (.slice none 0 0) [] B [] [] :=
  ⟨⟨Own.nil _ _ _ _, h, Own.nil _ _ _ _, Own.nil _ _ _ _⟩, Apt.nil _, Apt.nil _, Apt.nil _, (Apt.nil _).turn, (Apt.nil _).turn, Apt.nil _⟩

set_option maxRecDepth 10000 in
set_option maxHeartbeats 4000000 in
theorem walkSpaces21 (HP : PrPrepOk) (HE : PrEqualOk) (va vb : Value) (l q : List Int) (ends : Int) (w : World) (hs : Sl .i64 w va l) (ht : Sl .i64 w vb q) (hi : l.all inI = true) (hj : q.all inI = true) :
    Calls Tryz.prog 6 #[va, vb, .int .i64 ends] w fun e w' => e = .returned (.bool true) ∧ Below w.heap.size w w' := by
  have HS_l := hid hs
  have ml_l := hs.len
  obtain ⟨a_l, c_l, hv_l⟩ := hs.form
  obtain ⟨n, hn_l⟩ : ∃ n, n = l.length := ⟨_, rfl⟩
  rw [← hn_l] at hv_l ml_l
  subst hv_l
  have HN_l := hid hn_l
  clear hn_l hs
  have HS_q := hid ht
  have ml_q := ht.len
  obtain ⟨a_q, c_q, hv_q⟩ := ht.form
  obtain ⟨m, hn_q⟩ : ∃ n, n = q.length := ⟨_, rfl⟩
  rw [← hn_q] at hv_q ml_q
  subst hv_q
  have HN_q := hid hn_q
  clear hn_q ht
  have HW := hid (fun w => lawWakes21 HP w)
  have HB0 := hid (Below.refl w.heap.size w)
  by_cases hl_n : n ≤ 40
  · by_cases hl_m : m < n
    · clear HP HE hi hj
      have im : (m : Int) < (n : Int) := by omega
      have iN : ¬ (40 : Int) < (n : Int) := by omega
      go_enter Tryz.func6, Tryz.ntmps6
      go_wp2
      go_ret
      exact ⟨rfl, Below.refl _ _⟩
    · have im : ¬ (m : Int) < (n : Int) := by omega
      have iN : ¬ (40 : Int) < (n : Int) := by omega
      obtain ⟨N, hN⟩ : ∃ N, N = tabSpaces.length := ⟨_, rfl⟩
      have hN0 : 0 < N := by rw [hN]; exact spaces_len.1
      have hN1 : N ≤ 1000 := by rw [hN]; exact spaces_len.2
      have wN : IntKind.u64.wrap (N : Int) = (N : Int) := by simp only [IntKind.wrap, IntKind.bits, IntKind.signed]; simp; omega
      have wNz : ((N : Int) == 0) = false := by rw [beq_eq_false_iff_ne]; omega
      have HCALL := hid (fun w => (apiSpaces w).mono fun e w' (h : ∃ v, e = .returned v ∧ Sg w' v tabSpaces ∧ Below w.heap.size w w') => (show ∃ b o q, e = .returned (.slice (some ⟨b, o, none⟩) N q) ∧ N ≤ q ∧ b < w'.heap.size ∧ (∀ j, j < N → w'.cell? ⟨b, o + j * 3, none⟩ = some (.int .i64 (tabSpaces.getD j noRg).f)) ∧ Below w.heap.size w w' from by
        obtain ⟨v, rfl, h1, h2⟩ := h
        obtain ⟨b, o, q, rfl, hc, hcell⟩ := Sg.open21 h1 (by omega)
        exact ⟨b, o, q, by rw [hN], by omega, World.block_lt_of_cell? w' _ (hcell 0 (by omega)).1, fun j hj => (hcell j (by omega)).1, h2⟩))
      obtain ⟨J, hJ, hJ1, hJ2⟩ := ix_rem ends 5 (by omega) (by omega)
      obtain ⟨e0, rfl⟩ : ∃ j : Nat, J = (j : Int) := ⟨J.toNat, by omega⟩
      have he : e0 < 5 := by omega
      have HNL := hid hN
      clear hN hJ1 hJ2
      go_enter Tryz.func6, Tryz.ntmps6
      go_wp2_with (go_at_call 24; refine (HCALL.out _).mono ?_; rintro e w1 ⟨b, o, sq, rfl, hq, hlt, hcell, hb1⟩; have HB1 := hid hb1; have HLT := hid hlt; have HCS := hid hcell; clear hb1 hlt hcell)
      simp only [hJ]
      go_loopw [9, 12] (fun bv iv wr => ∃ (i : Nat), i ≤ e0 ∧ iv = .int .i64 (i : Int) ∧ Hid (Below w1.heap.size w1 wr) ∧ Hid (Own .i64 3 w1.heap.size wr bv (List.replicate i 32))) (fun _ iv _ => e0 - (intOf iv).toNat)
      case atStart => exact ⟨0, Nat.zero_le _, rfl, Below.refl _ _, Own.nil _ _ _ _⟩
      case round =>
        rename World => wr
        obtain ⟨i, hie, rfl, hbr, hob⟩ := hrel
        by_cases hlt : i < e0
        · have ig : (i : Int) < (e0 : Int) := by omega
          have HK := hid (show List.replicate i (32 : Int) ++ [32] = List.replicate (i + 1) 32 from (List.replicate_succ').symm)
          have HXL := hid (show (List.replicate i (32 : Int)).length ≤ 10 from by rw [List.length_replicate]; omega)
          generalize List.replicate i (32 : Int) = X at hob HK HXL
          go_wp2_with (at_builtin; go_loud (refine wpList_appI _ rfl _ _ 22 rfl .i64 w1.heap.size 3 8 Tryz.underlying22 Tryz.infoI64 _ X [32] rfl (hob.out.alloc _) _ rfl (lit_sl rfl rfl rfl (by simp)) (by simp) (by have := HXL.out; simp only [List.length_cons, List.length_nil]; unfold maxLen; omega) (by have := HXL.out; simp only [List.length_cons, List.length_nil]; omega) (by have := hbr.out.size; simp; omega) ?_; intro g7 c7 w7 ho hg hb hx; have HO7 := hid ho; have HB7 := hid ((hbr.out.alloc hbr.out.size _).trans hb); clear ho hg hb hx))
          go_roundw
          case rel =>
            exact ⟨i + 1, by omega, by go_num, HB7.out, by rw [← HK.out]; exact HO7.out⟩
          case measure => simp [intOf]; omega
        · have HF0 := hid (Four.start hob.out)
          have HS0 := hid (sp_start (e := i) (by omega))
          have HEI := hid (show e0 = i from by omega)
          have ign : ¬ (i : Int) < (e0 : Int) := by omega
          clear hob hlt hie
          go_wp2_with (fail)
          go_loopw [8, 9, 10, 11, 13, 14, 15, 16] (fun av bv cv dv jv xv kv nv wr => ∃ (j : Nat) (A B C D : List Int), j ≤ n ∧ jv = .int .i64 (j : Int) ∧ Hid (Below w1.heap.size w1 wr) ∧ Hid (Four w1.heap.size wr av bv cv dv A B C D) ∧ Hid (SpG i j none A B) ∧ Hid (Dg j 0 C D)) (fun _ _ _ _ jv _ _ _ _ => n - (intOf jv).toNat)
          case atStart => exact ⟨0, _, _, _, _, Nat.zero_le _, rfl, hbr.out, HF0.out, HS0.out, dg_start⟩
          case round =>
            rename World => wq
            obtain ⟨j, A, B, C, D, hj, rfl, hbq, HF, HS, HD⟩ := hrel
            clear HF0 HS0
            by_cases hlt : j < n
            · have ig : (j : Int) < (n : Int) := by omega
              have ig2 : (j : Int) < (m : Int) := by omega
              obtain ⟨bl, ol, hal, hbl, hcl⟩ := sl_at21 HS_l.out (show j < l.length from by rw [← HN_l.out]; exact hlt)
              obtain ⟨bm, om, hbm', hbm, hcm⟩ := sl_at21 HS_q.out (show j < q.length from by rw [← HN_q.out]; omega)
              subst hal hbm'
              have HBW := hid (HB1.out.trans (hbq.out.mono HB1.out.size))
              have d1 := (HBW.out.cell (p := ⟨bl, ol + j, none⟩) hbl).trans hcl
              have d2 := (HBW.out.cell (p := ⟨bm, om + j, none⟩) hbm).trans hcm
              have D1 := hid hcl
              have D2 := hid hcm
              have HLM := hid (And.intro hbl hbm)
              clear hcl hcm hbl hbm
              generalize l.getD j 0 = c at d1 D1
              generalize q.getD j 0 = dd at d2 D2
              obtain ⟨X, hX, hX1, hX2⟩ := ix_rem c 26 (by omega) (by omega)
              obtain ⟨Y, hY, hY1, hY2⟩ := ix_rem c 10 (by omega) (by omega)
              obtain ⟨K, hK, hK1, hK2⟩ := ix_rem dd 4 (by omega) (by omega)
              obtain ⟨k0, rfl⟩ : ∃ k : Nat, K = (k : Int) := ⟨K.toNat, by omega⟩
              have hk3 : k0 ≤ 3 := by omega
              obtain ⟨T, hT⟩ : ∃ T, (IntKind.u64.wrap c).tmod 3 = T := ⟨_, rfl⟩
              obtain ⟨U, hU⟩ : ∃ U, (IntKind.u64.wrap dd).tmod 2 = U := ⟨_, rfl⟩
              go_upto_if 68 with (fail)
              simp only [hX]
              have hlA := sp_len HS.out
              simp only [gapB, List.length_nil] at hlA
              obtain ⟨hlC, hlD, -⟩ := HD.out
              have HLN := hid (show A.length ≤ 100 ∧ B.length ≤ 300 ∧ C.length ≤ 100 ∧ D.length ≤ 100 from by omega)
              clear hlA hlC hlD
              go_cut [8, 9, 15] from 68 to 104 (fun av bv kv wx => ∃ (g : Option Nat) (A B : List Int), Hid (Four w1.heap.size wx av bv u10 u11 A B C D) ∧ Hid (SpG i j g A B) ∧ Hid ((gapB g).length ≤ 5) ∧ Hid (Below w1.heap.size w1 wx))
              case first =>
                by_cases hT0 : T = 0
                · subst hT0
                  go_wp2_with (first
                    | (have _u := HFa; clear _u; at_builtin; go_loud (refine wpList_appI _ rfl _ _ 22 rfl .i64 w1.heap.size 3 8 Tryz.underlying22 Tryz.infoI64 _ B [32] rfl (HFa.out.alloc _).1.2.1 _ rfl (lit_sl (by first | simp | rfl) rfl rfl (by simp)) (by simp) (by have := HLN.out; simp only [List.length_cons, List.length_nil]; unfold maxLen; omega) (by have := HLN.out; simp only [List.length_cons, List.length_nil]; omega) (by have := BHFa.out.size; simp at this ⊢; omega) ?_; intro g_HFb c_HFb wb ho hg hb hx; have HFb := hid (Four.putB (HFa.out.alloc _) ho hx); have BHFb := hid ((BHFa.out.alloc BHFa.out.size _).trans hb); clear ho hg hb hx; have d3 := ((HB1.out.trans (BHFb.out.mono HB1.out.size)).cell (p := ⟨bm, om + j, none⟩) HLM.out.2).trans D2.out))
                    | (at_builtin; go_loud (refine wpList_appI _ rfl _ _ 22 rfl .i64 w1.heap.size 3 8 Tryz.underlying22 Tryz.infoI64 _ A [32] rfl (HF.out.alloc _).1.1 _ rfl (lit_sl (by first | simp | rfl) rfl rfl (by simp)) (by simp) (by have := HLN.out; simp only [List.length_cons, List.length_nil]; unfold maxLen; omega) (by have := HLN.out; simp only [List.length_cons, List.length_nil]; omega) (by have := hbq.out.size; simp at this ⊢; omega) ?_; intro g_HFa c_HFa wa ho hg hb hx; have HFa := hid (Four.putA (HF.out.alloc _) ho hx); have BHFa := hid ((hbq.out.alloc hbq.out.size _).trans hb); clear ho hg hb hx)))
                  simp only [hK]
                  go_loopw [9, 15] (fun bv kv wx => ∃ (k g : Nat) (B' : List Int), k + g = k0 ∧ kv = .int .i64 (k : Int) ∧ B'.length ≤ B.length + 1 + g ∧ Hid (Below w1.heap.size w1 wx) ∧ Hid (Four w1.heap.size wx (.slice (some ⟨g_HFa, 0, none⟩) (A.length + 1) c_HFa) bv u10 u11 (A ++ [32]) B' C D) ∧ Hid (SpG i j (some g) (A ++ [32]) B')) (fun _ kv _ => (intOf kv).toNat)
                  case atStart => exact ⟨k0, 0, _, rfl, rfl, by simp, BHFb.out, HFb.out, sp_some HS.out⟩
                  case round =>
                    rename World => wx
                    obtain ⟨k, g, B', hkg, rfl, hBl, hbx, HFx, HSx⟩ := hrel
                    by_cases hk0 : 0 < k
                    · have igk : (0 : Int) < (k : Int) := by omega
                      obtain ⟨Q, hQ, hQ1, hQ2⟩ := ix_rem (wrap64 (dd + (k : Int))) (N : Int) (by omega) (by omega)
                      obtain ⟨sx, rfl⟩ : ∃ k : Nat, Q = (k : Int) := ⟨Q.toNat, by omega⟩
                      have hsx : sx < N := by omega
                      have hmem : tabSpaces.getD sx noRg ∈ tabSpaces := by rw [List.getD_eq_getElem?_getD, List.getElem?_eq_getElem (show sx < tabSpaces.length from by rw [← HNL.out]; exact hsx)]; exact List.getElem_mem _
                      obtain ⟨hm1, hm2⟩ := spaces_map hmem
                      have d5 := (hbx.out.cell (p := ⟨b, o + sx * 3, none⟩) HLT.out).trans (HCS.out sx hsx)
                      have HBW := hid (HB1.out.trans (hbx.out.mono HB1.out.size))
                      have d6 := (HBW.out.cell (p := ⟨bm, om + j, none⟩) HLM.out.2).trans D2.out
                      have HMM := hid (And.intro hm1 hm2)
                      have HLX := hid (show B'.length ≤ 400 from by have := HLN.out; omega)
                      clear hmem hm1 hm2
                      generalize (tabSpaces.getD sx noRg).f = x at d5 HMM
                      go_wp2_with ((at_builtin; go_loud (refine wpList_appI _ rfl _ _ 22 rfl .i64 w1.heap.size 3 8 Tryz.underlying22 Tryz.infoI64 _ B' [x] rfl (HFx.out.alloc _).1.2.1 _ rfl (lit_sl (by first | simp | rfl) rfl rfl (by simp)) (by simp) (by have := HLX.out; simp only [List.length_cons, List.length_nil]; unfold maxLen; omega) (by have := HLX.out; simp only [List.length_cons, List.length_nil]; omega) (by have := hbx.out.size; simp at this ⊢; omega) ?_; intro g_HFc c_HFc wc ho hg hb hx; have HFc := hid (Four.putB (HFx.out.alloc _) ho hx); have BHFc := hid ((hbx.out.alloc hbx.out.size _).trans hb); clear ho hg hb hx)))
                      go_roundw
                      case rel =>
                        clear HF HS HD
                        exact ⟨k - 1, g + 1, _, by omega, by go_num, by rw [List.length_append]; simp; omega, BHFc.out, HFc.out, sp_more HSx.out HMM.out.1 HMM.out.2⟩
                      case measure => simp [intOf]; omega
                    · have hk0' : k = 0 := by omega
                      subst hk0'
                      go_wp2_with (fail)
                      go_meet
                      exact ⟨some g, _, _, HFx.out, HSx.out, by show (gapB (some g)).length ≤ 5; simp [gapB]; omega, hbx.out⟩
                · have eT : (T == 0) = false := by simpa using hT0
                  go_wp2_with (fail)
                  go_meet
                  exact ⟨none, A, B, HF.out, HS.out, by show (0 : Nat) ≤ 5; omega, hbq.out⟩
              case rest =>
                rename World => wx
                obtain ⟨g, A', B', HF4, HS4, HG4, hb4⟩ := hcut
                have hl4 := sp_len HS4.out
                have hl5 := HG4.out
                have HLN4 := hid (show A'.length ≤ 100 ∧ B'.length ≤ 400 ∧ C.length ≤ 100 ∧ D.length ≤ 100 from by have := HLN.out; omega)
                have HSL := hid (sp_letter (x := 97 + X) HS4.out (by omega) hl5)
                have HDP := hid (dg_put (x := 48 + Y) HD.out (by omega))
                have HBW4 := hid (HB1.out.trans (hb4.out.mono HB1.out.size))
                have d4 := (HBW4.out.cell (p := ⟨bl, ol + j, none⟩) HLM.out.1).trans D1.out
                clear hl4 hl5 HF HS HD HLN HBW d1 d2 hT
                go_upto_if 135 with (first
                  | (have _u := HFf; clear _u; at_builtin; go_loud (refine wpList_appI _ rfl _ _ 22 rfl .i64 w1.heap.size 3 8 Tryz.underlying22 Tryz.infoI64 _ D [(48 + Y)] rfl (HFf.out.alloc _).1.2.2.2 _ rfl (lit_sl (by first | simp | rfl) rfl rfl (by simp)) (by simp) (by have := HLN4.out; simp only [List.length_cons, List.length_nil]; unfold maxLen; omega) (by have := HLN4.out; simp only [List.length_cons, List.length_nil]; omega) (by have := BHFf.out.size; simp at this ⊢; omega) ?_; intro g_HFg c_HFg wg ho hg hb hx; have HFg := hid (Four.putD (HFf.out.alloc _) ho hx); have BHFg := hid ((BHFf.out.alloc BHFf.out.size _).trans hb); clear ho hg hb hx; have d6 := ((HB1.out.trans (BHFg.out.mono HB1.out.size)).cell (p := ⟨bl, ol + j, none⟩) HLM.out.1).trans D1.out; have d7 := ((HB1.out.trans (BHFg.out.mono HB1.out.size)).cell (p := ⟨bm, om + j, none⟩) HLM.out.2).trans D2.out))
                  | (have _u := HFe; clear _u; at_builtin; go_loud (refine wpList_appI _ rfl _ _ 22 rfl .i64 w1.heap.size 3 8 Tryz.underlying22 Tryz.infoI64 _ C [(48 + Y)] rfl (HFe.out.alloc _).1.2.2.1 _ rfl (lit_sl (by first | simp | rfl) rfl rfl (by simp)) (by simp) (by have := HLN4.out; simp only [List.length_cons, List.length_nil]; unfold maxLen; omega) (by have := HLN4.out; simp only [List.length_cons, List.length_nil]; omega) (by have := BHFe.out.size; simp at this ⊢; omega) ?_; intro g_HFf c_HFf wf ho hg hb hx; have HFf := hid (Four.putC (HFe.out.alloc _) ho hx); have BHFf := hid ((BHFe.out.alloc BHFe.out.size _).trans hb); clear ho hg hb hx))
                  | (have _u := HFd; clear _u; at_builtin; go_loud (refine wpList_appI _ rfl _ _ 22 rfl .i64 w1.heap.size 3 8 Tryz.underlying22 Tryz.infoI64 _ B' [(97 + X)] rfl (HFd.out.alloc _).1.2.1 _ rfl (lit_sl (by first | simp | rfl) rfl rfl (by simp)) (by simp) (by have := HLN4.out; simp only [List.length_cons, List.length_nil]; unfold maxLen; omega) (by have := HLN4.out; simp only [List.length_cons, List.length_nil]; omega) (by have := BHFd.out.size; simp at this ⊢; omega) ?_; intro g_HFe c_HFe we ho hg hb hx; have HFe := hid (Four.putB (HFd.out.alloc _) ho hx); have BHFe := hid ((BHFd.out.alloc BHFd.out.size _).trans hb); clear ho hg hb hx; have d6 := ((HB1.out.trans (BHFe.out.mono HB1.out.size)).cell (p := ⟨bl, ol + j, none⟩) HLM.out.1).trans D1.out; have d7 := ((HB1.out.trans (BHFe.out.mono HB1.out.size)).cell (p := ⟨bm, om + j, none⟩) HLM.out.2).trans D2.out))
                  | (at_builtin; go_loud (refine wpList_appI _ rfl _ _ 22 rfl .i64 w1.heap.size 3 8 Tryz.underlying22 Tryz.infoI64 _ A' [(97 + X)] rfl (HF4.out.alloc _).1.1 _ rfl (lit_sl (by first | simp | rfl) rfl rfl (by simp)) (by simp) (by have := HLN4.out; simp only [List.length_cons, List.length_nil]; unfold maxLen; omega) (by have := HLN4.out; simp only [List.length_cons, List.length_nil]; omega) (by have := hb4.out.size; simp at this ⊢; omega) ?_; intro g_HFd c_HFd wd ho hg hb hx; have HFd := hid (Four.putA (HF4.out.alloc _) ho hx); have BHFd := hid ((hb4.out.alloc hb4.out.size _).trans hb); clear ho hg hb hx)))
                by_cases hU0 : U = 0
                · subst hU0
                  go_wp2_with ((have _u := HFg; clear _u; at_builtin; go_loud (refine wpList_appI _ rfl _ _ 22 rfl .i64 w1.heap.size 3 8 Tryz.underlying22 Tryz.infoI64 _ (D ++ [48 + Y]) [32] rfl (HFg.out.alloc _).1.2.2.2 _ rfl (lit_sl (by first | simp | rfl) rfl rfl (by simp)) (by simp) (by have := HLN4.out; simp only [List.length_append, List.length_cons, List.length_nil]; unfold maxLen; omega) (by have := HLN4.out; simp only [List.length_append, List.length_cons, List.length_nil]; omega) (by have := BHFg.out.size; simp at this ⊢; omega) ?_; intro g_HFh c_HFh wh ho hg hb hx; have HFh := hid (Four.putD (HFg.out.alloc _) ho hx); have BHFh := hid ((BHFg.out.alloc BHFg.out.size _).trans hb); clear ho hg hb hx)))
                  go_roundw
                  case rel => exact ⟨j + 1, _, _, _, _, by omega, by go_num, BHFh.out, (by have h := HFh.out; simp only [List.length_append, List.length_cons, List.length_nil] at h; exact h), HSL.out, dg_sp HDP.out⟩
                  case measure => simp [intOf]; omega
                · have eU : (U == 0) = false := by simpa using hU0
                  go_wp2_with (fail)
                  go_roundw
                  case rel => exact ⟨j + 1, _, _, _, _, by omega, by go_num, BHFg.out, HFg.out, HSL.out, dg_plain HDP.out⟩
                  case measure => simp [intOf]; omega
            · have hjn : j = n := by omega
              have ig : ¬ (j : Int) < (n : Int) := by omega
              have hB := hid (spg_end HS.out (by have := HEI.out; omega) (by omega))
              have hD := hid (dg_end HD.out (by omega))
              clear HS HD hlt
              go_wp2_with (fail)
              go_loopw [9, 17] (fun bv iv wr => ∃ (k : Nat) (x : List Int), k ≤ e0 ∧ iv = .int .i64 (k : Int) ∧ x = B ++ List.replicate k 160 ∧ Hid (Below w1.heap.size w1 wr) ∧ Hid (Four w1.heap.size wr u8 bv u10 u11 A x C D)) (fun _ iv _ => e0 - (intOf iv).toNat)
              case atStart => exact ⟨0, B, Nat.zero_le _, rfl, by simp, hbq.out, HF.out⟩
              case round =>
                rename World => wx
                obtain ⟨k, x, hk, rfl, hx, hbx, HFx⟩ := hrel
                by_cases hlt2 : k < e0
                · have ik : (k : Int) < (e0 : Int) := by omega
                  have HLX := hid (show x.length ≤ 400 from by
                    have := hB.out.2.2.2.1
                    rw [List.length_append, List.length_replicate] at this
                    rw [hx, List.length_append, List.length_replicate]
                    have := HEI.out
                    omega)
                  have HX := hid (show x ++ [160] = B ++ List.replicate (k + 1) 160 from by rw [hx, List.replicate_succ', List.append_assoc])
                  clear hx
                  go_wp2_with ((at_builtin; go_loud (refine wpList_appI _ rfl _ _ 22 rfl .i64 w1.heap.size 3 8 Tryz.underlying22 Tryz.infoI64 _ x [160] rfl (HFx.out.alloc _).1.2.1 _ rfl (lit_sl (by first | simp | rfl) rfl rfl (by simp)) (by simp) (by have := HLX.out; simp only [List.length_cons, List.length_nil]; unfold maxLen; omega) (by have := HLX.out; simp only [List.length_cons, List.length_nil]; omega) (by have := hbx.out.size; simp at this ⊢; omega) ?_; intro g_HFy c_HFy wy ho hg hb hx; have HFy := hid (Four.putB (HFx.out.alloc _) ho hx); have BHFy := hid ((hbx.out.alloc hbx.out.size _).trans hb); clear ho hg hb hx)))
                  go_roundw
                  case rel => exact ⟨k + 1, _, by omega, by go_num, HX.out, BHFy.out, HFy.out⟩
                  case measure => simp [intOf]; omega
                · have ik : ¬ (k : Int) < (e0 : Int) := by omega
                  have hxx : x = B ++ List.replicate i 160 := by rw [hx, show k = i from by have := HEI.out; omega]
                  rw [← hxx] at hB
                  obtain ⟨b1, b2, b3, b4, b5⟩ := hB.out
                  obtain ⟨c1, c2, c3, c4, c5⟩ := hD.out
                  have G1 := hid (fun va vb w ha hb => HE 1 va vb A x w (by decide) ha hb b1 b2 (by omega) (by omega) (fits_map b1 (by omega)) (fits_map b2 (by omega)))
                  have G2 := hid (fun va vb w ha hb => HE 3 va vb C D w (by decide) ha hb c1 c2 (by omega) (by omega) (fits_map c1 (by omega)) (fits_map c2 (by omega)))
                  rw [b5] at G1
                  rw [c5] at G2
                  have HBx := hid (HB1.out.trans (hbx.out.mono HB1.out.size))
                  clear HE HP hB hD hx hxx b1 b2 b3 b4 b5 c1 c2 c3 c4 c5
                  go_wp2_with (first
                    | (have _u := HBb; clear _u; go_at_call 20; refine (HW.out _).mono ?_; rintro e wc ⟨rfl, hb⟩; have HBc := hid (HBb.out.trans (hb.mono HBb.out.size)); clear hb)
                    | (have _u := HBa; clear _u; go_at_call 12; refine (G2.out _ _ _ HSC.out HSD.out).mono ?_; rintro e wb ⟨rfl, hb⟩; have HBb := hid (HBa.out.trans (hb.mono HBa.out.size)); clear hb)
                    | (go_at_call 12; refine (G1.out _ _ _ HFx.out.1.1.sl HFx.out.1.2.1.sl).mono ?_; rintro e wa ⟨rfl, hb⟩; have HBa := hid (HBx.out.trans (hb.mono HBx.out.size)); have HSC := hid (HFx.out.1.2.2.1.sl.below hb); have HSD := hid (HFx.out.1.2.2.2.sl.below hb); clear hb))
                  go_ret
                  exact ⟨rfl, HBc.out⟩
  · have iN : (40 : Int) < (n : Int) := by omega
    clear HP HE hi hj
    go_enter Tryz.func6, Tryz.ntmps6
    go_wp2
    go_ret
    exact ⟨rfl, Below.refl _ _⟩
end Go.Proofs.YtidjjaginindoaaGreat
