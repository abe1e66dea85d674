/- Several texts in one: Ref12, Ref21a, Ref21b, Ref21c. -/
import Derived.Test.YtidjjaginindoaaGreatPk21
import Derived.Test.YtidjjaginindoaaGreatPk12
import Derived.Test.YtidjjaginindoaaGreatPk25
import Derived.Test.YtidjjaginindoaaGreatPk29
import Derived.Test.YtidjjaginindoaaGreatPk18
import Derived.Test.YtidjjaginindoaaGreatPk30
import Derived.Test.YtidjjaginindoaaGreatPk13
import Derived.BigQuiet
/-! Ref12 -/
namespace Go.Proofs.YtidjjaginindoaaGreat
open Go.RowKit

set_option maxHeartbeats 1000000 in
theorem refFoldOne12 (B : Nat) (c : Int) (w : World) (h : TabsAt B w) : Calls Tryz.prog 38 #[.pointer (some ⟨B, 0, none⟩), .int .i64 c] w fun e w' => ∃ x, e = .returned x ∧ Sl .i64 w' x (foldS c) ∧ Below w.heap.size w w' := by
  have HT := hid h
  have H1 := hid (refTFold B c w h)
  by_cases hm : mapS tabFolds c = []
  · have HF := hid (fold_none hm)
    rw [hm] at H1
    clear hm h
    go_enter Tryz.func38, Tryz.ntmps38
    go_wp2_with (go_at_call 68; refine H1.out.mono ?_; rintro e w1 ⟨v1, rfl, ho1, hb1⟩; obtain ⟨a1, c1, rfl⟩ := ho1.form; simp only [List.length_nil]; have HB1 := hid hb1; clear ho1 hb1)
    go_ret
    exact ⟨_, rfl, by rw [HF.out]; exact lit_sl (by first | simp | rfl) rfl rfl (by simp), HB1.out.alloc HB1.out.size _⟩
  · have HF := hid (fold_some hm)
    obtain ⟨n, hn⟩ : ∃ n, n = (mapS tabFolds c).length := ⟨_, rfl⟩
    have hn0 : 0 < n := by rw [hn]; exact List.length_pos_iff.2 hm
    have HN := hid hn
    clear hm hn h
    go_enter Tryz.func38, Tryz.ntmps38
    go_wp2_with (go_at_call 68; refine H1.out.mono ?_; rintro e w1 ⟨v1, rfl, ho1, hb1⟩; obtain ⟨a1, c1, hv1⟩ := ho1.form; rw [← HN.out] at hv1; subst hv1; have HO1 := hid ho1; have HB1 := hid hb1; clear ho1 hb1)
    go_ret
    exact ⟨_, rfl, by rw [HF.out]; exact HO1.out, HB1.out⟩
end Go.Proofs.YtidjjaginindoaaGreat

/-! Ref21a -/
namespace Go.Proofs.YtidjjaginindoaaGreat
open Go.RowKit
set_option linter.unusedVariables false


theorem refRule21 (r : Int) (w : World) : Calls Tryz.prog 31 #[.int .i64 r] w fun e w' => e = .returned (.bool (ruleP r)) ∧ w = w' := by
  by_cases h1 : r = 1
  · subst h1
    go_enter Tryz.func31, Tryz.ntmps31
    go_wp2
    go_ret
    exact ⟨rfl, rfl⟩
  by_cases h2 : r = 2
  · subst h2
    go_enter Tryz.func31, Tryz.ntmps31
    go_wp2
    go_ret
    exact ⟨rfl, rfl⟩
  have e1 : (r == 1) = false := by simpa using h1
  have e2 : (r == 2) = false := by simpa using h2
  obtain ⟨q, hq⟩ : ∃ q, q = (r == 3) := ⟨_, rfl⟩
  have HR := hid (show ruleP r = q from by
    rw [hq]
    unfold ruleP
    rw [Bool.eq_iff_iff, decide_eq_true_iff, beq_iff_eq]
    omega)
  replace hq := hq.symm
  clear h1 h2
  go_enter Tryz.func31, Tryz.ntmps31
  go_wp2
  go_ret
  exact ⟨by rw [HR.out]; first | rfl | (rw [hq]; rfl) | (rw [← hq]; rfl), rfl⟩
set_option maxHeartbeats 2000000 in
theorem refAllowed21 (v : Value) (s : List Int) (w : World) (hs : Sl .i64 w v s) : Calls Tryz.prog 17 #[v] w fun e w' => e = .returned (.bool (alwP s)) ∧ Below w.heap.size w w' := by
  obtain ⟨a1, cap1, rfl, q1, q2, h1⟩ := hs
  obtain ⟨n, hn⟩ : ∃ n, n = s.length := ⟨_, rfl⟩
  have HN := hid hn
  have HC1 := hid h1
  rw [← hn] at q1 ⊢
  have hnm : n ≤ 9223372036854775807 := by unfold maxLen at q2; omega
  obtain ⟨r, hr⟩ : ∃ r, r = alwP s := ⟨_, rfl⟩
  have HR := hid hr
  rw [← hr]
  clear h1 hn hr q2
  go_enter Tryz.func17, Tryz.ntmps17
  go_wp2
  go_loopw [2, 3] (fun rv iv wr => ∃ (j : Nat), j ≤ n ∧ rv = .bool false ∧ iv = .int .i64 (j : Int) ∧ Hid (Below w.heap.size w wr) ∧ Hid (r = alwP (s.drop j))) (fun _ iv _ => n - (intOf iv).toNat)
  case atStart => exact ⟨0, Nat.zero_le _, rfl, rfl, Below.refl _ _, HR.out⟩
  case round =>
    obtain ⟨j, hj, rfl, rfl, hbel, hrest⟩ := hrel
    by_cases hlt : j < n
    · rcases HC1.out with hcc | ⟨b1, o1, rfl, hb1, hc⟩
      · omega
      have hb1' := hb1 (by have := HN.out; omega)
      have HLT := hid hb1'
      have d0 := hc j (by have := HN.out; omega)
      have D0 := hid d0
      have d1 := (hbel.out.cell (p := ⟨b1, o1 + j, none⟩) hb1').trans d0
      have hdr : s.drop j = s.getD j 0 :: s.drop (j + 1) := drop_getD rfl (by have := HN.out; omega)
      rw [hdr] at hrest
      clear hc hb1 hb1' hdr d0
      generalize s.getD j 0 = c at d1 D0 hrest
      have HA := hid (fun w => refAssigned6 c w)
      have HP := hid (fun w => refProhibited6 c w)
      have hrest2 := hid (show r = ((hasS tabAssigned c && !hasS tabProhibited c) && alwP (s.drop (j + 1))) from hrest.out)
      generalize hasS tabAssigned c = a at HA hrest2
      generalize hasS tabProhibited c = p at HP hrest2
      clear hrest
      cases a with
      | false =>
        have HK := hid (show r = false from by rw [hrest2.out]; rfl)
        clear hrest2
        go_wp2_with (go_at_call 41; refine (HA.out _).mono ?_; rintro e w2 ⟨rfl, hb2⟩; have HB2 := hid (hbel.out.trans (hb2.mono hbel.out.size)); clear hb2)
        go_ret
        exact ⟨by rw [HK.out]; rfl, HB2.out⟩
      | true =>
        cases p with
        | true =>
          have HK := hid (show r = false from by rw [hrest2.out]; rfl)
          clear hrest2
          go_wp2_with (first
            | (go_at_call 41; refine (HA.out _).mono ?_; rintro e w2 ⟨rfl, hb2⟩; have HB2 := hid (hbel.out.trans (hb2.mono hbel.out.size)); have d2 := (HB2.out.cell (p := ⟨b1, o1 + j, none⟩) HLT.out).trans D0.out; clear hb2)
            | (go_at_call 42; refine (HP.out _).mono ?_; rintro e w3 ⟨rfl, hb3⟩; have HB3 := hid (HB2.out.trans (hb3.mono HB2.out.size)); clear hb3))
          go_ret
          exact ⟨by rw [HK.out]; rfl, HB3.out⟩
        | false =>
          have HK := hid (show r = alwP (s.drop (j + 1)) from by rw [hrest2.out]; simp)
          clear hrest2
          go_wp2_with (first
            | (go_at_call 41; refine (HA.out _).mono ?_; rintro e w2 ⟨rfl, hb2⟩; have HB2 := hid (hbel.out.trans (hb2.mono hbel.out.size)); have d2 := (HB2.out.cell (p := ⟨b1, o1 + j, none⟩) HLT.out).trans D0.out; clear hb2)
            | (go_at_call 42; refine (HP.out _).mono ?_; rintro e w3 ⟨rfl, hb3⟩; have HB3 := hid (HB2.out.trans (hb3.mono HB2.out.size)); clear hb3))
          go_roundw
          case rel => exact ⟨j + 1, by omega, rfl, by go_num, HB3.out, HK.out⟩
          case measure => simp [intOf]; omega
    · obtain rfl : j = n := by omega
      have HB := hid (show r = true from by rw [hrest.out, HN.out, List.drop_length]; rfl)
      go_wp2
      go_ret
      exact ⟨by rw [HB.out]; rfl, hbel.out⟩
set_option maxHeartbeats 4000000 in
set_option maxRecDepth 10000 in
theorem refMap21 (G : Nat) (rule : Int) (v : Value) (s : List Int) (w : World) (h : EngAt G w) (hs : Sl .i64 w v s) (hl : s.length ≤ 100000) : Calls Tryz.prog 15 #[.pointer (some ⟨G, 0, none⟩), v, .int .i64 rule] w fun e w' =>
    ∃ x, e = .returned x ∧ Own .i64 3 w.heap.size w' x (mapP rule s) ∧ Below w.heap.size w w' := by
  obtain ⟨B, S, va, hx, htb, -, -⟩ := h
  have HX := hid hx
  have HTB := hid htb
  obtain ⟨a1, cap1, rfl, q1, q2, h1⟩ := hs
  obtain ⟨n, hn⟩ : ∃ n, n = s.length := ⟨_, rfl⟩
  have HN := hid hn
  have HC1 := hid h1
  rw [← hn] at q1 hl ⊢
  clear h1 hn q2 hx htb
  go_enter Tryz.func15, Tryz.ntmps15
  go_wp2
  go_loopw [7, 8] (fun bv iv wr => ∃ (j : Nat) (x : List Int), j ≤ n ∧ x.length ≤ 3 * j ∧ iv = .int .i64 (j : Int) ∧ Hid (Own .i64 3 w.heap.size wr bv x) ∧ Hid (Below w.heap.size w wr) ∧ Hid (mapP rule s = x ++ mapP rule (s.drop j))) (fun _ iv _ => n - (intOf iv).toNat)
  case atStart => exact ⟨0, [], Nat.zero_le _, by simp, rfl, Own.nil _ _ _ _, Below.refl _ _, rfl⟩
  case round =>
    obtain ⟨j, x, hj, hxl, rfl, hown, hbel, hput⟩ := hrel
    by_cases hlt : j < n
    · rcases HC1.out with hcc | ⟨b1, o1, rfl, hb1, hc⟩
      · omega
      have hb1' := hb1 (by have := HN.out; omega)
      have d1 := (hbel.out.cell (p := ⟨b1, o1 + j, none⟩) hb1').trans (hc j (by have := HN.out; omega))
      have hdr : s.drop j = s.getD j 0 :: s.drop (j + 1) := drop_getD rfl (by have := HN.out; omega)
      rw [hdr, mapP_cons] at hput
      clear hc hb1 hb1' hdr
      generalize s.getD j 0 = c at d1 hput
      have HNO := hid (fun w => refNothing6 c w)
      have HSP := hid (fun w => refSpace6 c w)
      have HFO := hid (fun w h => refFoldOne12 B c w h)
      have hml := mapR_len rule c
      have HXL := hid (show (x ++ mapR rule c).length ≤ 3 * (j + 1) from by rw [List.length_append]; omega)
      have HLN := hid (show x.length + 3 ≤ 400000 from by omega)
      have HK := hid (show mapP rule s = (x ++ mapR rule c) ++ mapP rule (s.drop (j + 1)) from by rw [hput.out, List.append_assoc])
      have hfl := fold_len c
      unfold mapR at HXL HK
      clear hput hml
      cases hno : hasS tabNothing c with
      | true =>
        rw [hno] at HNO
        rw [if_pos hno, List.append_nil] at HXL HK
        clear hno
        go_wp2_with (go_at_call 36; refine (HNO.out _).mono ?_; rintro e w2 ⟨rfl, hb2⟩; have HB2 := hid (hbel.out.trans (hb2.mono hbel.out.size)); have HO2 := hid (hown.out.below hb2); clear hb2)
        go_roundw
        case rel => exact ⟨j + 1, x, by omega, HXL.out, by go_num, HO2.out, HB2.out, HK.out⟩
        case measure => simp [intOf]; omega
      | false =>
        rw [hno] at HNO
        rw [if_neg (by rw [hno]; simp)] at HXL HK
        clear hno
        cases hsp : hasS tabSpaces c with
        | true =>
          rw [hsp] at HSP
          rw [if_pos hsp] at HXL HK
          clear hsp
          go_wp2_with (first | (go_at_call 36; refine (HNO.out _).mono ?_; rintro e w2 ⟨rfl, hb2⟩; have HB2 := hid (hbel.out.trans (hb2.mono hbel.out.size)); have HO2 := hid (hown.out.below hb2); clear hb2) | (go_at_call 37; refine (HSP.out _).mono ?_; rintro e w3 ⟨rfl, hb3⟩; have HB3 := hid (HB2.out.trans (hb3.mono HB2.out.size)); have HO3 := hid (HO2.out.below hb3); have HX3 := hid (HX.out.below HB3.out HX.out.lt); have HT3 := hid (HTB.out.below HB3.out); have x0 := HX3.out.cell 0; simp only [List.getElem?_cons_zero] at x0; clear hb3) | (at_builtin; go_loud (refine wpList_app _ rfl _ _ 22 rfl .i64 w.heap.size 3 8 Tryz.underlying22 Tryz.infoI64 _ x [32] rfl (HO3.out.alloc _) _ rfl (one_sl (by first | simp | rfl)) (by have := HLN.out; unfold maxLen; first | omega | (simp; omega)) (by have := HLN.out; first | omega | (simp; omega)) (by have := HB3.out.size; simp; omega) ?_; intro v5 w5 ho5 hg5 hb5 hn5; have HO5 := hid ho5; have HB5 := hid ((HB3.out.alloc HB3.out.size _).trans hb5); clear ho5 hg5 hb5 hn5)))
          go_roundw
          case rel => exact ⟨j + 1, x ++ [32], by omega, HXL.out, by go_num, HO5.out, HB5.out, HK.out⟩
          case measure => simp [intOf]; omega
        | false =>
          rw [hsp] at HSP
          rw [if_neg (by rw [hsp]; simp)] at HXL HK
          clear hsp
          by_cases hr : rule = 1 ∨ rule = 2
          · rw [if_pos hr] at HXL HK
            have HFL := hid hfl
            by_cases hr1 : rule = 1
            · subst hr1
              clear hr hfl
              go_wp2_with (first | (go_at_call 36; refine (HNO.out _).mono ?_; rintro e w2 ⟨rfl, hb2⟩; have HB2 := hid (hbel.out.trans (hb2.mono hbel.out.size)); have HO2 := hid (hown.out.below hb2); clear hb2) | (go_at_call 37; refine (HSP.out _).mono ?_; rintro e w3 ⟨rfl, hb3⟩; have HB3 := hid (HB2.out.trans (hb3.mono HB2.out.size)); have HO3 := hid (HO2.out.below hb3); have HX3 := hid (HX.out.below HB3.out HX.out.lt); have HT3 := hid (HTB.out.below HB3.out); have x0 := HX3.out.cell 0; simp only [List.getElem?_cons_zero] at x0; clear hb3) | (go_at_call 38; go_loud (refine (HFO.out _ HT3.out).mono ?_; rintro e w4 ⟨v4, rfl, hs4, hb4⟩; have HS4 := hid hs4; have HB4 := hid (HB3.out.trans (hb4.mono HB3.out.size)); have HO4 := hid (HO3.out.below hb4); clear hs4 hb4)) | (at_builtin; go_loud (refine wpList_app _ rfl _ _ 22 rfl .i64 w.heap.size 3 8 Tryz.underlying22 Tryz.infoI64 _ x (foldS c) rfl HO4.out v4 rfl HS4.out (by have := HLN.out; have := HFL.out; unfold maxLen; first | omega | (simp; omega)) (by have := HLN.out; have := HFL.out; first | omega | (simp; omega)) HB4.out.size ?_; intro v5 w5 ho5 hg5 hb5 hn5; have HO5 := hid ho5; have HB5 := hid (HB4.out.trans hb5); clear ho5 hg5 hb5 hn5)))
              go_roundw
              case rel => exact ⟨j + 1, x ++ foldS c, by omega, HXL.out, by go_num, HO5.out, HB5.out, HK.out⟩
              case measure => simp [intOf]; omega
            · obtain rfl : rule = 2 := by omega
              clear hr hfl hr1
              go_wp2_with (first | (go_at_call 36; refine (HNO.out _).mono ?_; rintro e w2 ⟨rfl, hb2⟩; have HB2 := hid (hbel.out.trans (hb2.mono hbel.out.size)); have HO2 := hid (hown.out.below hb2); clear hb2) | (go_at_call 37; refine (HSP.out _).mono ?_; rintro e w3 ⟨rfl, hb3⟩; have HB3 := hid (HB2.out.trans (hb3.mono HB2.out.size)); have HO3 := hid (HO2.out.below hb3); have HX3 := hid (HX.out.below HB3.out HX.out.lt); have HT3 := hid (HTB.out.below HB3.out); have x0 := HX3.out.cell 0; simp only [List.getElem?_cons_zero] at x0; clear hb3) | (go_at_call 38; go_loud (refine (HFO.out _ HT3.out).mono ?_; rintro e w4 ⟨v4, rfl, hs4, hb4⟩; have HS4 := hid hs4; have HB4 := hid (HB3.out.trans (hb4.mono HB3.out.size)); have HO4 := hid (HO3.out.below hb4); clear hs4 hb4)) | (at_builtin; go_loud (refine wpList_app _ rfl _ _ 22 rfl .i64 w.heap.size 3 8 Tryz.underlying22 Tryz.infoI64 _ x (foldS c) rfl HO4.out v4 rfl HS4.out (by have := HLN.out; have := HFL.out; unfold maxLen; first | omega | (simp; omega)) (by have := HLN.out; have := HFL.out; first | omega | (simp; omega)) HB4.out.size ?_; intro v5 w5 ho5 hg5 hb5 hn5; have HO5 := hid ho5; have HB5 := hid (HB4.out.trans hb5); clear ho5 hg5 hb5 hn5)))
              go_roundw
              case rel => exact ⟨j + 1, x ++ foldS c, by omega, HXL.out, by go_num, HO5.out, HB5.out, HK.out⟩
              case measure => simp [intOf]; omega
          · rw [if_neg hr] at HXL HK
            have e1 : (rule == 1) = false := by simp; omega
            have e2 : (rule == 2) = false := by simp; omega
            clear hr hfl
            go_wp2_with (first | (go_at_call 36; refine (HNO.out _).mono ?_; rintro e w2 ⟨rfl, hb2⟩; have HB2 := hid (hbel.out.trans (hb2.mono hbel.out.size)); have HO2 := hid (hown.out.below hb2); clear hb2) | (go_at_call 37; refine (HSP.out _).mono ?_; rintro e w3 ⟨rfl, hb3⟩; have HB3 := hid (HB2.out.trans (hb3.mono HB2.out.size)); have HO3 := hid (HO2.out.below hb3); have HX3 := hid (HX.out.below HB3.out HX.out.lt); have HT3 := hid (HTB.out.below HB3.out); have x0 := HX3.out.cell 0; simp only [List.getElem?_cons_zero] at x0; clear hb3) | (at_builtin; go_loud (refine wpList_app _ rfl _ _ 22 rfl .i64 w.heap.size 3 8 Tryz.underlying22 Tryz.infoI64 _ x [c] rfl (HO3.out.alloc _) _ rfl (one_sl (by first | simp | rfl)) (by have := HLN.out; unfold maxLen; first | omega | (simp; omega)) (by have := HLN.out; first | omega | (simp; omega)) (by have := HB3.out.size; simp; omega) ?_; intro v5 w5 ho5 hg5 hb5 hn5; have HO5 := hid ho5; have HB5 := hid ((HB3.out.alloc HB3.out.size _).trans hb5); clear ho5 hg5 hb5 hn5)))
            go_roundw
            case rel => exact ⟨j + 1, x ++ [c], by omega, HXL.out, by go_num, HO5.out, HB5.out, HK.out⟩
            case measure => simp [intOf]; omega
    · obtain rfl : j = n := by omega
      have HB := hid (show mapP rule s = x from by rw [hput.out, HN.out, List.drop_length]; simp [mapP])
      go_wp2
      go_ret
      exact ⟨_, rfl, by rw [HB.out]; exact hown.out, hbel.out⟩
end Go.Proofs.YtidjjaginindoaaGreat

/-! Ref21b -/
namespace Go.Proofs.YtidjjaginindoaaGreat
open Go.RowKit
set_option linter.unusedVariables false

theorem words_sp {cur : List Int} {c : Int} {r : List Int} (h : spB c r = true) : wordsA cur (c :: r) = (if cur = [] then [] else [cur]) ++ wordsA [] r := by
  rw [wordsA, if_pos h]
  split <;> rfl
theorem words_in {cur : List Int} {c : Int} {r : List Int} (h : spB c r = false) : wordsA cur (c :: r) = wordsA (cur ++ [c]) r := by
  rw [wordsA, if_neg (by rw [h]; simp)]
theorem sp_other {c : Int} {r : List Int} (h : c ≠ 32) : spB c r = false := by unfold spB; simp [h]
theorem sp_end : spB 32 [] = true := rfl
theorem sp_behind {d : Int} {r : List Int} : spB 32 (d :: r) = (classS d == 0) := by unfold spB; simp
theorem join_snoc (x : List Int) : ∀ l : List (List Int), joinP (l ++ [x]) = if l = [] then x else joinP l ++ 32 :: 32 :: x
  | [] => rfl
  | [w] => by simp [joinP]
  | w :: y :: l => by
    have ih := join_snoc x (y :: l)
    rw [if_neg (by simp)] at ih
    rw [List.cons_append, List.cons_append, joinP, ← List.cons_append, ih, if_neg (by simp), joinP]
    simp
theorem take_snoc {l : List (List Int)} {i : Nat} (h : i < l.length) : l.take (i + 1) = l.take i ++ [l.getD i []] := by
  rw [List.getD_eq_getElem?_getD, List.getElem?_eq_getElem h, Option.getD_some]
  exact (List.take_append_getElem h).symm
/-- the words so far: what is done, what is open -/
def WrdS (s : List Int) (j : Nat) (o : Bool) (done : List (List Int)) (cur : List Int) (ws : List (List Int)) : Prop :=
  ws = done ++ (if o then [cur] else []) ∧ (o = true → cur ≠ []) ∧ (o = false → cur = []) ∧ (∀ x ∈ done, x ≠ []) ∧ (∀ x ∈ ws, x.length ≤ j) ∧ ws.length ≤ j ∧ wordsA [] s = done ++ wordsA cur (s.drop j)
def WrdJ (base G : Nat) (w : World) (s : List Int) (n : Nat) (wv ov iv : Value) (wr : World) : Prop :=
  ∃ (j : Nat) (us : List Value) (ws done : List (List Int)) (o : Bool) (cur : List Int), j ≤ n ∧ ov = .bool o ∧ iv = .int .i64 (j : Int) ∧ Hid (WrdO base wr wv us ws) ∧ Hid (Below base w wr) ∧ Hid (WrdS s j o done cur ws)
set_option maxHeartbeats 8000000 in
set_option maxRecDepth 100000 in
theorem refSpaces21 (G : Nat) (rule : Int) (v : Value) (s : List Int) (w : World) (h : EngAt G w) (hs : Sl .i64 w v s) (hl : s.length ≤ 1000000) : Calls Tryz.prog 19 #[.pointer (some ⟨G, 0, none⟩), v, .int .i64 rule] w fun e w' =>
    ∃ x, e = .returned x ∧ Own .i64 3 w.heap.size w' x (spacesP rule s) ∧ Below w.heap.size w w' := by
  obtain ⟨B, S, va, hx, htb, -, -⟩ := h
  have HX := hid hx
  have HTB := hid htb
  obtain ⟨a1, cap1, rfl, q1, q2, h1⟩ := hs
  obtain ⟨n, hn⟩ : ∃ n, n = s.length := ⟨_, rfl⟩
  have HN := hid hn
  have HC1 := hid h1
  rw [← hn] at q1 hl ⊢
  clear h1 hn q2 hx htb
  go_enter Tryz.func19, Tryz.ntmps19
  go_wp2
  go_loopw [7, 8, 9] (fun wv ov iv wr => WrdJ w.heap.size G w s n wv ov iv wr) (fun _ _ iv _ => n - (intOf iv).toNat)
  case atStart => exact ⟨0, [], [], [], false, [], Nat.zero_le _, rfl, rfl, WrdO.nil _ _, Below.refl _ _, ⟨rfl, fun h => absurd h (by simp), fun _ => rfl, (fun x hx => by cases hx), (fun x hx => by cases hx), Nat.le_refl _, rfl⟩⟩
  case round =>
    obtain ⟨j, us, ws, done, o, cur, hj, rfl, rfl, hwo, hbel, hws⟩ := hrel
    by_cases hlt : j < n
    · rcases HC1.out with hcc | ⟨b1, o1, rfl, hb1, hc⟩
      · omega
      have hb1' := hb1 (by have := HN.out; omega)
      have HLT := hid hb1'
      have D0 := hid (hc j (by have := HN.out; omega))
      have hdr : s.drop j = s.getD j 0 :: s.drop (j + 1) := drop_getD rfl (by have := HN.out; omega)
      have D1 := hid (fun (h : j + 1 < n) => (⟨hc (j + 1) (by have := HN.out; omega), drop_getD rfl (by have := HN.out; omega)⟩ : _ ∧ s.drop (j + 1) = s.getD (j + 1) 0 :: s.drop (j + 1 + 1)))
      have D2 := hid (fun (h : j + 1 = n) => (show s.drop (j + 1) = [] from List.drop_eq_nil_iff.2 (by have := HN.out; omega)))
      have HDR := hid hdr
      clear hc hb1 hb1' hdr
      generalize s.getD j 0 = c at D0 HDR
      obtain ⟨wad, wcap, hwv⟩ := hwo.out.form
      subst hwv
      have HXr := hid (HX.out.below hbel.out HX.out.lt)
      have HTr := hid (HTB.out.below hbel.out)
      obtain ⟨sp, hsp⟩ : ∃ sp, sp = spB c (s.drop (j + 1)) := ⟨_, rfl⟩
      have HSP := hid hsp
      clear hsp
      have hltI : (j : Int) < (n : Int) := by omega
      go_upto_region 6 with (fail)
      go_cut [43] from 19 to 43 (fun bv wx => bv = .bool sp ∧ Hid (Below wr.heap.size wr wx))
      case first =>
        have d0 := (hbel.out.cell (p := ⟨b1, o1 + j, none⟩) HLT.out).trans D0.out
        have x0 := HXr.out.cell 0
        simp only [List.getElem?_cons_zero] at x0
        by_cases h32 : c = 32
        · subst h32
          by_cases hend : j + 1 = n
          · have HS := hid (show sp = true from by rw [HSP.out, D2.out hend]; rfl)
            have ee : (((j : Int) + 1) == (n : Int)) = true := by simp; omega
            go_quiet (fail)
            go_wp2_with (fail)
            go_meet
            exact ⟨by rw [HS.out], by (repeat (first | exact Below.refl _ _ | exact below_drewN _ | refine Below.drew ?_ | refine Below.alloc ?_ (by simp) _ | refine Below.setCell ?_ (by simp) _ | refine below_drewN' ?_ _))⟩
          · obtain ⟨e1, e2⟩ := D1.out (by omega)
            have d2 := (hbel.out.cell (p := ⟨b1, o1 + (j + 1), none⟩) HLT.out).trans e1
            generalize s.getD (j + 1) 0 = d at d2 e2
            have HS := hid (show sp = (classS d == 0) from by rw [HSP.out, e2]; exact sp_behind)
            have HCL := hid (fun w' (hb : Below wr.heap.size wr w') => refTClass B d w' (HTr.out.below hb))
            have ee : (((j : Int) + 1) == (n : Int)) = false := by simp; omega
            have g1 : IntKind.i64.wrap ((j : Int) + 1) = ((j + 1 : Nat) : Int) := by rw [IntKind.wrap_i64]; omega
            have g2 : ((j + 1 : Nat) : Int) < (n : Int) := by omega
            have ee2 : (((j + 1 : Nat) : Int) == (n : Int)) = false := by simp; omega
            obtain ⟨q, hq⟩ : ∃ q, q = (classS d == 0) := ⟨_, rfl⟩
            have HQ := hid (HS.out.trans hq.symm)
            replace hq := hq.symm
            clear e1 e2
            generalize classS d = cd at HCL hq
            go_quiet (first | (go_at_call 46; exact quiet_same0 (HCL.out _ (by (repeat (first | exact Below.refl _ _ | exact below_drewN _ | refine Below.drew ?_ | refine Below.alloc ?_ (by simp) _ | refine Below.setCell ?_ (by simp) _ | refine below_drewN' ?_ _))))) | (go_at_call 46; exact quiet_same (HCL.out _ (by (repeat (first | exact Below.refl _ _ | exact below_drewN _ | refine Below.drew ?_ | refine Below.alloc ?_ (by simp) _ | refine Below.setCell ?_ (by simp) _ | refine below_drewN' ?_ _))))))
            go_wp2_with (fail)
            go_meet
            exact ⟨by rw [HQ.out], by (repeat (first | exact Below.refl _ _ | exact below_drewN _ | refine Below.drew ?_ | refine Below.alloc ?_ (by simp) _ | refine Below.setCell ?_ (by simp) _ | refine below_drewN' ?_ _))⟩
        · have HS := hid (show sp = false from by rw [HSP.out]; exact sp_other h32)
          have e1 : (c == 32) = false := by simpa using h32
          clear h32
          go_quiet (fail)
          go_wp2_with (fail)
          go_meet
          exact ⟨by rw [HS.out], by (repeat (first | exact Below.refl _ _ | exact below_drewN _ | refine Below.drew ?_ | refine Below.alloc ?_ (by simp) _ | refine Below.setCell ?_ (by simp) _ | refine below_drewN' ?_ _))⟩
      case rest =>
        rename World => wx
        obtain ⟨rfl, hbc⟩ := hcut
        have HB2 := hid (hbel.out.trans (hbc.out.mono hbel.out.size))
        have HW2 := hid (hwo.out.below hbc.out)
        have HSO := hid (show wordsA [] s = done ++ wordsA cur (c :: s.drop (j + 1)) from by rw [← HDR.out]; exact hws.out.2.2.2.2.2.2)
        cases sp with
        | true =>
          have HJ := hid (show WrdS s (j + 1) false ws [] ws from by
            obtain ⟨f1, f2, f3, f4, f5, f6, -⟩ := hws.out
            refine ⟨by simp, (fun h => by cases h), fun _ => rfl, fun x hx => ?_, fun x hx => Nat.le_succ_of_le (f5 x hx), by omega, ?_⟩
            · rw [f1] at hx
              rcases List.mem_append.1 hx with hx | hx
              · exact f4 x hx
              · cases o with
                | false => simp at hx
                | true => simp at hx; rw [hx]; exact f2 rfl
            · rw [HSO.out, words_sp HSP.out.symm, ← List.append_assoc]
              congr 1
              rw [f1]
              cases o with
              | false => rw [f3 rfl]; simp
              | true => rw [if_neg (f2 rfl)]; simp)
          clear hws HSO HSP
          go_wp2
          go_roundw
          case rel => exact ⟨j + 1, us, ws, ws, false, [], by omega, rfl, by go_num, HW2.out, HB2.out, HJ.out⟩
          case measure => simp [intOf]; omega
        | false =>
          have HWI := hid (show wordsA [] s = done ++ wordsA (cur ++ [c]) (s.drop (j + 1)) from by rw [HSO.out, words_in HSP.out.symm])
          go_upto_if 45 with (fail)
          go_cut [7, 8] from 45 to 48 (fun wv ov wy => ∃ us0 u, ov = .bool true ∧ Hid (WrdO w.heap.size wy wv (us0 ++ [u]) (done ++ [cur])) ∧ Hid (Below w.heap.size w wy))
          case first =>
            cases o with
            | true =>
              go_wp2
              go_meet
              obtain ⟨f1, -⟩ := hws.out
              have hl : us.length = done.length + 1 := by rw [HW2.out.2.1, f1]; simp
              have hne : us ≠ [] := fun e => by rw [e] at hl; simp at hl
              refine ⟨us.dropLast, us.getLast hne, rfl, ?_, HB2.out⟩
              have h2 := HW2.out
              rw [f1] at h2
              rw [List.dropLast_concat_getLast hne]
              exact h2
            | false =>
              go_wp2_with (at_builtin; go_loud (refine wpList_appNil _ rfl _ _ 54 rfl Tryz.underlying54 infoSl w.heap.size _ us ws rfl (HW2.out.below ((Below.refl _ _).alloc (Nat.le_refl _) _)) wx.heap.size 1 rfl ((Box.made wx 22 [.slice none 0 0]).cell 0) (by have := hws.out.2.2.2.2.2.1; have := HW2.out.2.1; omega) (by have := HB2.out.size; simp; omega) ?_; intro g6 c6 w6 ho6 hb6; have HO6 := hid ho6; have HB6 := hid ((HB2.out.alloc HB2.out.size (.cells #[.slice none 0 0] 22)).trans hb6); clear ho6 hb6))
              go_meet
              obtain ⟨f1, -, f3, -⟩ := hws.out
              refine ⟨us, .slice none 0 0, rfl, ?_, HB6.out⟩
              have h2 := HO6.out
              rw [f1] at h2
              rw [f3 rfl]
              have h3 : WrdO w.heap.size w6 (.slice (some ⟨g6, 0, none⟩) (us.length + 1) c6) (us ++ [.slice none 0 0]) (done ++ [[]]) := by simpa using h2
              exact h3
          case rest =>
            rename World => wy
            obtain ⟨us0, u, rfl, hwy, hby⟩ := hcut
            obtain ⟨g, cap, hv, hgb, hgl, hcell, hfrz, cs, hbox⟩ := hwy.out.block (by simp)
            obtain ⟨K, hK⟩ : ∃ K, K = us0.length := ⟨_, rfl⟩
            have hcK : wy.cell? ⟨g, K, none⟩ = some u := by rw [hcell K (by simp; omega), hK, getD_last]
            have hfK := hfrz K
            obtain ⟨m, hm⟩ : ∃ m, m = (us0 ++ [u]).length := ⟨_, rfl⟩
            have hmK : m = K + 1 := by rw [hm, hK]; simp
            rw [← hm] at hv
            subst hv
            have hlen : us0.length = done.length := by have := hwy.out.2.1; simpa using this
            have hou : Own .i64 3 w.heap.size wy u cur := by
              have := hwy.out.2.2.1 us0.length (by simp)
              rw [getD_last, hlen, getD_last] at this
              exact this
            obtain ⟨ua, uc, hu⟩ := hou.sl.form
            subst hu
            have HOU := hid hou
            have HBX := hid hbox
            have HWO := hid (show WrdO w.heap.size wy (.slice (some ⟨g, 0, none⟩) m cap) (us0 ++ [.slice ua cur.length uc]) (done ++ [cur]) from hwy.out)
            have d0 := (hby.out.cell (p := ⟨b1, o1 + j, none⟩) HLT.out).trans D0.out
            have hcl : cur.length ≤ j := by
              cases o with
              | true => exact hws.out.2.2.2.2.1 cur (by rw [hws.out.1]; simp)
              | false => rw [hws.out.2.2.1 rfl]; simp
            have HCL := hid (show cur.length + 1 ≤ 2000000 from by omega)
            have hdl : done.length ≤ j := by
              have := hws.out.2.2.2.2.2.1
              rw [hws.out.1, List.length_append] at this
              omega
            have g1 : IntKind.i64.wrap ((m : Int) - 1) = (K : Int) := by rw [IntKind.wrap_i64]; omega
            have g2 : (K : Int) < (m : Int) := by omega
            have g3 : (0 : Int) ≤ (K : Int) := by omega
            have HMK := hid hmK
            have HKL := hid hK
            have HLEN := hid hlen
            have HM := hid hm
            have HLW := hid (show Below wy.heap.size wy ((wy.drew).alloc (.cells #[.int .i64 c] 3)) from by (repeat (first | exact Below.refl _ _ | exact below_drewN _ | refine Below.drew ?_ | refine Below.alloc ?_ (by simp) _ | refine Below.setCell ?_ (by simp) _ | refine below_drewN' ?_ _)))
            have HDL := hid (show done.length ≤ j from hdl)
            have HCL2 := hid (show cur.length ≤ j from hcl)
            clear hcell hfrz hK hwy hmK hlen hm hdl hcl hou
            go_wp2
            go_region_law (first
              | (go_loud (refine step_appI _ rfl _ _ 22 rfl .i64 w.heap.size 3 8 Tryz.underlying22 Tryz.infoI64 (.slice ua cur.length uc) cur [c] rfl (HOU.out.below (by (repeat (first | exact Below.refl _ _ | exact below_drewN _ | refine Below.drew ?_ | refine Below.alloc ?_ (by simp) _ | refine Below.setCell ?_ (by simp) _ | refine below_drewN' ?_ _)))) _ rfl (one_sl (by first | simp | rfl)) (by simp) (by have := HCL.out; unfold maxLen; simp; omega) (by have := HCL.out; simp; omega) (by have := hby.out.size; simp; omega) ?_; intro g7 c7 w7 ho7 hg7 hb7 hx7; have HO7 := hid ho7; have HG7 := hid hg7; have HB7 := hid hb7; have HX7 := hid hx7; have HBX7 := hid ((HBX.out.below HLW.out HBX.out.lt).grown (HOU.out.below HLW.out) hg7 (by decide)); have z7 := (HBX7.out.cell K).trans ((HBX.out.cell K).symm.trans hcK); have f7 := HBX7.out.ice K; clear ho7 hg7 hb7 hx7)))
            all_goals
              go_wp2
              go_roundw
              case rel =>
                have HWN := ((HWO.out.below HLW.out).grew HO7.out HG7.out HX7.out)
                rw [← HKL.out] at HWN
                have HWN2 : WrdO w.heap.size (w7.setCell ⟨g, K, none⟩ (.slice (some ⟨g7, 0, none⟩) (cur.length + 1) c7)) (.slice (some ⟨g, 0, none⟩) m cap) (us0 ++ [.slice (some ⟨g7, 0, none⟩) (cur.length + 1) c7]) (done ++ [cur ++ [c]]) := HWN
                refine ⟨j + 1, us0 ++ [Value.slice (some ⟨g7, 0, none⟩) (cur.length + 1) c7], done ++ [cur ++ [c]], done, true, cur ++ [c], by omega, rfl, by go_num, hid HWN2, ?_, ?_⟩
                · exact (((hby.out.trans (HLW.out.mono hby.out.size)).trans HB7.out)).setCell hgb _
                · obtain ⟨f1, f2, f3, f4, f5, f6, -⟩ := hws.out
                  have hdl := HDL.out
                  have hcl := HCL2.out
                  refine ⟨by simp, fun _ => by simp, (fun h => by cases h), f4, fun x hx => ?_, by simp; omega, HWI.out⟩
                  rcases List.mem_append.1 hx with hx | hx
                  · exact Nat.le_succ_of_le (f5 x (by rw [f1]; exact List.mem_append_left _ hx))
                  · obtain rfl := List.mem_singleton.1 hx
                    simp; omega
              case measure => simp [intOf]; omega
    · obtain rfl : j = n := by omega
      have HW0 := hid (show wordsA [] s = ws from by
        obtain ⟨f1, f2, f3, -, -, -, f7⟩ := hws.out
        rw [f7, HN.out, List.drop_length, f1]
        cases o with
        | false => rw [f3 rfl]; rfl
        | true =>
          congr 1
          rw [wordsA, if_neg (f2 rfl)]
          rfl)
      have HNE := hid (show ∀ x ∈ ws, x ≠ [] from by
        obtain ⟨f1, f2, -, f4, -⟩ := hws.out
        intro x hx
        rw [f1] at hx
        rcases List.mem_append.1 hx with hx | hx
        · exact f4 x hx
        · cases o with
          | false => simp at hx
          | true => simp at hx; rw [hx]; exact f2 rfl)
      have HXL := hid (show (∀ x ∈ ws, x.length ≤ j) ∧ ws.length ≤ j from ⟨hws.out.2.2.2.2.1, hws.out.2.2.2.2.2.1⟩)
      clear hws
      obtain ⟨wad, wcap, hwv⟩ := hwo.out.form
      subst hwv
      have HULW := hid hwo.out.2.1
      obtain ⟨m, hm⟩ : ∃ m, m = us.length := ⟨_, rfl⟩
      have HM := hid hm
      rw [← hm] at hwo ⊢
      have hul : m ≤ 1000000 := by have := HXL.out.2; have := HULW.out; omega
      clear hm
      by_cases hr3 : rule = 3
      · subst hr3
        have HSPC := hid (show spacesP 3 s = ws.flatten from by unfold spacesP; rw [if_pos rfl, HW0.out])
        go_wp2
        go_loopw [10, 11] (fun ov iv wz => ∃ (i : Nat) (x : List Int), i ≤ m ∧ iv = .int .i64 (i : Int) ∧ x.length ≤ 1000000 * i ∧ Hid (x = (ws.take i).flatten) ∧ Hid (Own .i64 3 w.heap.size wz ov x) ∧ Hid (WrdO w.heap.size wz (.slice wad m wcap) us ws) ∧ Hid (∀ q, q < us.length → Apt ov (us.getD q undef)) ∧ Hid (Below w.heap.size w wz)) (fun _ iv _ => m - (intOf iv).toNat)
        case atStart => exact ⟨0, [], Nat.zero_le _, rfl, by simp, rfl, Own.nil _ _ _ _, hwo.out, fun q _ => Apt.nil _, hbel.out⟩
        case round =>
          obtain ⟨i, x, hi, rfl, hxl, hxe, hox, hwo2, hap, hbz⟩ := hrel
          by_cases hlt : i < m
          · skip
            have hlu : i < us.length := by have := HM.out; omega
            have hlt2 : (i : Int) < (m : Int) := by omega
            obtain ⟨g, cap, hv, hgb, hgl, hcell, -, -⟩ := hwo2.out.block (by omega)
            injection hv with hv1 hv2 hv3
            subst hv1 hv3
            clear hv2
            have d1 := hcell i hlu
            have HOR := hid (hwo2.out.2.2.1 i hlu)
            have hlw : i < ws.length := by have := hwo2.out.2.1; omega
            have hmem : ws.getD i [] ∈ ws := by rw [List.getD_eq_getElem?_getD, List.getElem?_eq_getElem hlw]; exact List.getElem_mem _
            have htk := take_snoc hlw
            generalize us.getD i undef = u at d1 HOR
            generalize ws.getD i [] = y at HOR hmem htk
            have HRL := hid (show 0 < y.length ∧ x.length + y.length ≤ 1000000 * (i + 1) from ⟨List.length_pos_iff.2 (HNE.out _ hmem), by have := HXL.out.1 _ hmem; omega⟩)
            have HOX := hid hox.out
            have HBX := hid hbz.out
            have HWX := hid hwo2.out
            have HAP := hid hap.out
            have HXE := hid (show x ++ y = (ws.take (i + 1)).flatten from by rw [htk, List.flatten_append, ← hxe.out]; simp)
            clear hcell hmem hlw htk hlu
            go_wp2_with (at_builtin; go_loud (refine wpList_appI _ rfl _ _ 22 rfl .i64 w.heap.size 3 8 Tryz.underlying22 Tryz.infoI64 _ x y rfl HOX.out u rfl HOR.out.sl HRL.out.1 (by have := HRL.out.2; unfold maxLen; omega) (by have := HRL.out.2; omega) HBX.out.size ?_; intro g7 c7 w7 ho7 hg7 hb7 hx7; have HO7 := hid ho7; have HB7 := hid (HBX.out.trans hb7); have HB8 := hid (HWX.out.beside HOX.out HAP.out hg7 hx7); clear ho7 hg7 hb7 hx7))
            go_roundw
            case rel => exact ⟨i + 1, x ++ y, by omega, by go_num, by rw [List.length_append]; exact HRL.out.2, HXE.out, HO7.out, HB8.out.1, HB8.out.2, HB7.out⟩
            case measure => simp [intOf]; omega
          · obtain rfl : i = m := by omega
            have HE := hid (show spacesP 3 s = x from by rw [HSPC.out, hxe.out, HM.out, HULW.out, List.take_length])
            go_wp2
            go_ret
            exact ⟨_, rfl, by rw [HE.out]; exact hox.out, hbz.out⟩
      · have e3 : (rule == 3) = false := by simpa using hr3
        by_cases hu0 : m = 0
        · have HSPC := hid (show spacesP rule s = [32, 32] from by
            unfold spacesP
            rw [if_neg hr3, HW0.out, if_pos (List.eq_nil_of_length_eq_zero (by have := HULW.out; have := HM.out; omega))])
          subst hu0
          clear hr3
          go_wp2
          go_ret
          exact ⟨_, rfl, by rw [HSPC.out]; exact lit_own rfl hbel.out.size rfl rfl (by simp), hbel.out.alloc hbel.out.size _⟩
        · have HSPC := hid (show spacesP rule s = 32 :: (joinP ws ++ [32]) from by
            unfold spacesP
            rw [if_neg hr3, HW0.out, if_neg (fun h => hu0 (by rw [HM.out, HULW.out, h]; rfl))])
          have eu : ((m : Int) == 0) = false := by rw [beq_eq_false_iff_ne]; omega
          clear hr3 hu0
          go_wp2_with (at_builtin; go_loud (refine wpList_appI _ rfl _ _ 22 rfl .i64 w.heap.size 3 8 Tryz.underlying22 Tryz.infoI64 _ [] [32] rfl (Own.nil _ _ _ _) _ rfl (one_sl (by first | simp | rfl)) (by simp) (by first | (simp [maxLen]; done) | decide) (by first | (simp; done) | decide) (by have := hbel.out.size; simp; omega) ?_; intro g4 c4 w4 ho hg hb hx; have HO4 := hid ho; have HB4 := hid ((hbel.out.alloc hbel.out.size _).trans hb); have HW4 := hid ((hwo.out.below (by (repeat (first | exact Below.refl _ _ | exact below_drewN _ | refine Below.drew ?_ | refine Below.alloc ?_ (by simp) _ | refine Below.setCell ?_ (by simp) _ | refine below_drewN' ?_ _)))).beside (Own.nil .i64 3 w.heap.size _) (fun q _ => Apt.nil _) hg hx); clear ho hg hb hx))
          go_loopw [10, 12] (fun ov iv wz => ∃ (i : Nat) (x : List Int), i ≤ m ∧ iv = .int .i64 (i : Int) ∧ x.length ≤ 1000002 * i + 1 ∧ Hid (x = 32 :: joinP (ws.take i)) ∧ Hid (Own .i64 3 w.heap.size wz ov x) ∧ Hid (WrdO w.heap.size wz (.slice wad m wcap) us ws) ∧ Hid (∀ q, q < us.length → Apt ov (us.getD q undef)) ∧ Hid (Below w.heap.size w wz)) (fun _ iv _ => m - (intOf iv).toNat)
          case atStart => exact ⟨0, [32], Nat.zero_le _, rfl, by simp, rfl, HO4.out, HW4.out.1, HW4.out.2, HB4.out⟩
          case round =>
            rename World => wz
            obtain ⟨i, x, hi, rfl, hxl, hxe, hox, hwo2, hap, hbz⟩ := hrel
            by_cases hlt : i < m
            · skip
              have hlu : i < us.length := by have := HM.out; omega
              have HLU := hid hlu
              have hlt2 : (i : Int) < (m : Int) := by omega
              obtain ⟨g, cap, hv, hgb, hgl, hcell, -, -⟩ := hwo2.out.block (by omega)
              injection hv with hv1 hv2 hv3
              subst hv1 hv3
              clear hv2
              have d1 := hcell i hlu
              have HOR := hid (hwo2.out.2.2.1 i hlu)
              have hlw : i < ws.length := by have := hwo2.out.2.1; omega
              have hmem : ws.getD i [] ∈ ws := by rw [List.getD_eq_getElem?_getD, List.getElem?_eq_getElem hlw]; exact List.getElem_mem _
              have htk := take_snoc hlw
              generalize hu : us.getD i undef = u at d1 HOR
              generalize hy : ws.getD i [] = y at HOR hmem htk
              have HU := hid hu
              have HY := hid hy
              have HOX := hid hox.out
              have HBX := hid hbz.out
              have HWX := hid (show WrdO w.heap.size wz (.slice (some ⟨g, 0, none⟩) m wcap) us ws from hwo2.out)
              have HAP := hid hap.out
              have HYL := hid (show 0 < y.length ∧ y.length ≤ 1000000 from ⟨List.length_pos_iff.2 (HNE.out _ hmem), by have := HXL.out.1 _ hmem; omega⟩)
              have HXB := hid (show x.length ≤ 1000002 * i + 1 from hxl)
              have HIM := hid (show i < m ∧ m ≤ 1000000 from ⟨hlt, hul⟩)
              by_cases hi0 : i = 0
              · subst hi0
                have HXE := hid (show x ++ y = 32 :: joinP (ws.take (0 + 1)) from by rw [htk, hxe.out]; simp [joinP])
                clear hcell hmem hlw htk hlu hu hy
                go_wp2_with (at_builtin; go_loud (refine wpList_appI _ rfl _ _ 22 rfl .i64 w.heap.size 3 8 Tryz.underlying22 Tryz.infoI64 _ x y rfl HOX.out u rfl HOR.out.sl HYL.out.1 (by have := HXB.out; have := HYL.out; have := HIM.out; unfold maxLen; first | omega | (simp; omega)) (by have := HXB.out; have := HYL.out; have := HIM.out; first | omega | (simp; omega)) HBX.out.size ?_; intro g7 c7 w7 ho hg hb hx; have HO7 := hid ho; have HB7 := hid (HBX.out.trans hb); have HW7 := hid (HWX.out.beside HOX.out HAP.out hg hx); clear ho hg hb hx))
                go_roundw
                case rel => exact ⟨1, x ++ y, by have := HIM.out; omega, by go_num, by rw [List.length_append]; have := HXB.out; have := HYL.out; omega, HXE.out, HO7.out, HW7.out.1, HW7.out.2, HB7.out⟩
                case measure => simp [intOf]; omega
              · have HXE := hid (show (x ++ [32, 32]) ++ y = 32 :: joinP (ws.take (i + 1)) from by
                  rw [htk, join_snoc, if_neg (fun h => (List.take_eq_nil_iff.1 h).elim hi0 (fun h => by rw [h] at hlw; simp at hlw)), hxe.out]
                  simp)
                have ig : (0 : Int) < (i : Int) := by omega
                have HSEP := hid (Nat.le_refl 0)
                clear hcell hmem hlw htk hlu hu hy hi0
                go_wp2_with (first | (have _u := HSEP; clear _u; at_builtin; go_loud (refine wpList_appI _ rfl _ _ 22 rfl .i64 w.heap.size 3 8 Tryz.underlying22 Tryz.infoI64 _ x [32, 32] rfl (HOX.out.alloc _) _ rfl (lit_sl rfl rfl rfl (by simp)) (by simp) (by have := HXB.out; have := HYL.out; have := HIM.out; unfold maxLen; first | omega | (simp; omega)) (by have := HXB.out; have := HYL.out; have := HIM.out; first | omega | (simp; omega)) (by have := HBX.out.size; simp; omega) ?_; intro g5 c5 w5 ho hg hb hx; have HO5 := hid ho; have HB5 := hid ((HBX.out.alloc HBX.out.size _).trans hb); have HW5 := hid ((HWX.out.below (by (repeat (first | exact Below.refl _ _ | exact below_drewN _ | refine Below.drew ?_ | refine Below.alloc ?_ (by simp) _ | refine Below.setCell ?_ (by simp) _ | refine below_drewN' ?_ _)))).beside (HOX.out.alloc _) HAP.out hg hx); have d2 := WrdO.cellAt (show WrdO w.heap.size w5 (.slice (some ⟨g, 0, none⟩) m wcap) us ws from HW5.out.1) HLU.out; rw [HU.out] at d2; have HOR5 := hid (show Own .i64 3 w.heap.size w5 u y from by have h5 := HW5.out.1.2.2.1 i HLU.out; rw [HU.out, HY.out] at h5; exact h5); clear HSEP; clear ho hg hb hx)) | (have _u := HO5; clear _u; at_builtin; go_loud (refine wpList_appI _ rfl _ _ 22 rfl .i64 w.heap.size 3 8 Tryz.underlying22 Tryz.infoI64 _ (x ++ [32, 32]) y rfl HO5.out u rfl HOR5.out.sl HYL.out.1 (by have := HXB.out; have := HYL.out; have := HIM.out; rw [List.length_append]; simp only [List.length_cons, List.length_nil]; unfold maxLen; first | omega | (simp; omega)) (by have := HXB.out; have := HYL.out; have := HIM.out; rw [List.length_append]; simp only [List.length_cons, List.length_nil]; first | omega | (simp; omega)) HB5.out.size ?_; intro g7 c7 w7 ho hg hb hx; have HO7 := hid ho; have HB7 := hid (HB5.out.trans hb); have HW7 := hid (WrdO.beside (show WrdO w.heap.size w5 (.slice (some ⟨g, 0, none⟩) m wcap) us ws from HW5.out.1) HO5.out HW5.out.2 hg hx); clear ho hg hb hx)))
                go_roundw
                case rel => exact ⟨i + 1, (x ++ [32, 32]) ++ y, by have := HIM.out; omega, by go_num, by rw [List.length_append, List.length_append]; have := HXB.out; have := HYL.out; simp; omega, HXE.out, by have h := HO7.out; rw [show (x ++ [(32 : Int), 32]).length = x.length + 2 from by simp] at h; exact h, HW7.out.1, by have h := HW7.out.2; rw [show (x ++ [(32 : Int), 32]).length = x.length + 2 from by simp] at h; exact h, HB7.out⟩
                case measure => simp [intOf]; omega
            · obtain rfl : i = m := by omega
              have HE := hid (show spacesP rule s = x ++ [32] from by rw [HSPC.out, hxe.out, HM.out, HULW.out, List.take_length]; rfl)
              have HXB := hid (show x.length ≤ 1000002 * i + 1 ∧ i ≤ 1000000 from ⟨hxl, hul⟩)
              go_wp2_with (at_builtin; go_loud (refine wpList_appI _ rfl _ _ 22 rfl .i64 w.heap.size 3 8 Tryz.underlying22 Tryz.infoI64 _ x [32] rfl (hox.out.alloc _) _ rfl (one_sl (by first | simp | rfl)) (by simp) (by have := HXB.out.1; have := HXB.out.2; unfold maxLen; first | omega | (simp; omega)) (by have := HXB.out.1; have := HXB.out.2; first | omega | (simp; omega)) (by have := hbz.out.size; simp; omega) ?_; intro g8 c8 w8 ho hg hb hx; have HO8 := hid ho; have HB8 := hid ((hbz.out.alloc hbz.out.size _).trans hb); have HW8 := hid ((hwo2.out.below (by (repeat (first | exact Below.refl _ _ | exact below_drewN _ | refine Below.drew ?_ | refine Below.alloc ?_ (by simp) _ | refine Below.setCell ?_ (by simp) _ | refine below_drewN' ?_ _)))).beside (hox.out.alloc _) hap.out hg hx); clear ho hg hb hx))
              go_ret
              exact ⟨_, rfl, by rw [HE.out]; exact HO8.out, HB8.out⟩
end Go.Proofs.YtidjjaginindoaaGreat

/-! Ref21c -/
namespace Go.Proofs.YtidjjaginindoaaGreat
open Go.RowKit
set_option linter.unusedVariables false

theorem prepP_off {rule : Int} {s : List Int} (h : ruleP rule = false) : prepP rule s = none := by unfold prepP; rw [h]; rfl
theorem prepP_no {rule : Int} {s : List Int} (h : alwP (formS true (mapP rule s)) = false) : prepP rule s = none := by unfold prepP; rw [h, Bool.and_false]; rfl
theorem prepP_yes {rule : Int} {s : List Int} (h : ruleP rule = true) (h2 : alwP (formS true (mapP rule s)) = true) : prepP rule s = some (spacesP rule (formS true (mapP rule s))) := by unfold prepP; rw [h, h2]; rfl
set_option maxHeartbeats 4000000 in
set_option maxRecDepth 100000 in
theorem refPrep21 (G : Nat) (rule : Int) (v : Value) (s : List Int) (w : World) (h : EngAt G w) (hs : Sl .i64 w v s) (hl : s.length ≤ 100000) (hf : FitsK true (mapP rule s)) : Calls Tryz.prog 11 #[.pointer (some ⟨G, 0, none⟩), v, .int .i64 rule] w fun e w' =>
    ∃ x, e = .returned (.tuple #[x, .bool (prepP rule s).isSome]) ∧ Own .i64 3 w.heap.size w' x ((prepP rule s).getD []) ∧ Below w.heap.size w w' := by
  have HE := hid h
  have HR := hid (fun w => refRule21 rule w)
  obtain ⟨r, hr⟩ : ∃ r, r = ruleP rule := ⟨_, rfl⟩
  rw [← hr] at HR
  cases r with
  | false =>
    have HP := hid (prepP_off (s := s) hr.symm)
    clear hr h hs
    go_enter Tryz.func11, Tryz.ntmps11
    go_wp2_with (go_at_call 31; refine (HR.out _).mono ?_; rintro e wq ⟨rfl, rfl⟩)
    go_ret2
    exact ⟨_, by rw [HP.out]; rfl, by rw [HP.out]; exact Own.nil _ _ _ _, Below.refl _ _⟩
  | true =>
    have HS := hid hs
    have HM := hid (fun w h hs => refMap21 G rule v s w h hs hl)
    have HF := hid (fun B v w hB h => refForm11 true B v (mapP rule s) w hB h hf)
    have HFL := hid (show (formS true (mapP rule s)).length ≤ 1000000 from Nat.le_trans (form_len true _) hf.2.2)
    have HNO := hid (fun h => prepP_no (rule := rule) (s := s) h)
    have HYES := hid (fun h => prepP_yes (rule := rule) (s := s) hr.symm h)
    obtain ⟨F, hF⟩ : ∃ F, F = formS true (mapP rule s) := ⟨_, rfl⟩
    rw [← hF] at HF HFL HNO HYES
    generalize mapP rule s = M at HM HF
    obtain ⟨B, S, va, hx, htb, hst, hat⟩ := h
    have HX := hid hx
    have HTB := hid htb
    have HHE := hid (fun (w' : World) (hb : Below w.heap.size w w') => EngAt.below HE.out hb)
    obtain ⟨av, cv, hv⟩ := hs.form
    obtain ⟨n, hn⟩ : ∃ n, n = s.length := ⟨_, rfl⟩
    rw [← hn] at hv
    subst hv
    have HCC := hid (fun (w' : World) (h : Below w.heap.size w w') => (show w'.cell? ⟨G, 0, none⟩ = some (.pointer (some ⟨B, 0, none⟩)) from (HX.out.below h HX.out.lt).cell 0))
    have HI0 := hid ((HX.out.below (Below.refl w.heap.size w).drew HX.out.lt).ice 0)
    have HSP := hid (fun v w h hs => refSpaces21 G rule v F w h hs HFL.out)
    obtain ⟨a, ha⟩ : ∃ a, a = alwP F := ⟨_, rfl⟩
    have HAL := hid (fun v w h => refAllowed21 v F w h)
    rw [← ha] at HAL HNO HYES
    clear hr hF hf hl hs hx htb hst hat hn ha
    go_enter Tryz.func11, Tryz.ntmps11
    go_wp2_with (go_at_call 31; refine (HR.out _).mono ?_; rintro e wq ⟨rfl, rfl⟩)
    have HBq := hid ((Below.refl w.heap.size w).drew)
    have HMq := hid (HM.out _ (HHE.out _ HBq.out) (HS.out.below HBq.out))
    go_region_held3 (fun w' => w'.cell? ⟨G, 0, none⟩ = some (.pointer (some ⟨B, 0, none⟩)))
      (first | exact HCC.out _ HBb.out | exact HCC.out _ HBa.out | exact HCC.out _ HBq.out)
      (first
        | (have _u := HBa; clear _u; go_simp; go_at_call 32; with_reducible refine (HF.out _ _ _ (HTB.out.below HBa.out) HOa.out.sl).mono ?_; rintro e wb ⟨vF, rfl, hob, hbb⟩; have HBb := hid (HBa.out.trans (hbb.mono HBa.out.size)); have HOb := hid (hob.mono HBa.out.size); clear hbb hob)
        | (go_simp; go_at_call 15; with_reducible refine HMq.out.mono ?_; rintro e wa ⟨vM, rfl, hoa, hba⟩; have HBa := hid (HBq.out.trans (hba.mono HBq.out.size)); have HOa := hid (hoa.mono HBq.out.size); clear hba hoa))
    cases a with
    | false =>
      go_wp2_with (go_at_call 17; refine (HAL.out _ _ HOb.out.sl).mono ?_; rintro e wc ⟨rfl, hbc⟩; have HBc := hid (HBb.out.trans (hbc.mono HBb.out.size)); clear hbc)
      go_ret2
      have hp := HNO.out (by first | rfl | trivial)
      exact ⟨_, by rw [hp]; rfl, by rw [hp]; exact Own.nil _ _ _ _, HBc.out⟩
    | true =>
      go_wp2_with (first
        | (go_at_call 17; refine (HAL.out _ _ HOb.out.sl).mono ?_; rintro e wc ⟨rfl, hbc⟩; have HBc := hid (HBb.out.trans (hbc.mono HBb.out.size)); have HOc := hid (HOb.out.sl.below hbc); clear hbc)
        | (go_at_call 19; refine (HSP.out _ _ (HHE.out _ HBc.out) HOc.out).mono ?_; rintro e wd ⟨vS, rfl, hod, hbd⟩; have HBd := hid (HBc.out.trans (hbd.mono HBc.out.size)); have HOd := hid (hod.mono HBc.out.size); clear hbd hod))
      go_ret2
      have hp := HYES.out (by first | rfl | trivial)
      exact ⟨_, by rw [hp]; rfl, by rw [hp]; exact HOd.out, HBd.out⟩
end Go.Proofs.YtidjjaginindoaaGreat
