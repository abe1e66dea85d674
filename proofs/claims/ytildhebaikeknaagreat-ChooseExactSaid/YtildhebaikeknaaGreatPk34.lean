/- Several texts in one: StrIs, Ref18c, Ref18d. -/
import Derived.Test.YtildhebaikeknaaGreatPk23
import Derived.Test.YtildhebaikeknaaGreatPk1
import Derived.Test.YtildhebaikeknaaGreatPk32
import Derived.Test.YtildhebaikeknaaGreatPk33
import Derived.Test.YtildhebaikeknaaGreatPk19
import Derived.Test.YtildhebaikeknaaGreatPk9
/-! StrIs -/
namespace Go.Proofs.YtildhebaikeknaaGreat
open Go.RowKit

def SIsOk : Prop := ∀ (k : Int) (w : World), Calls Tryz.prog 28 #[.int .i64 k] w fun e w' => e = .returned (.bool (isK k)) ∧ Below w.heap.size w w'
theorem strIs (k : Int) (w : World) : Calls Tryz.prog 28 #[.int .i64 k] w fun e w' => e = .returned (.bool (isK k)) ∧ w = w' := by
  by_cases h : k = 12 ∨ k = 18 ∨ k = 19 ∨ k = 20 ∨ k = 22 ∨ k = 26 ∨ k = 28 ∨ k = 30
  · rcases h with rfl | rfl | rfl | rfl | rfl | rfl | rfl | rfl <;>
    · go_enter Tryz.func28, Tryz.ntmps28
      go_wp2
      go_ret
      exact ⟨rfl, rfl⟩
  · have HR := hid (show isK k = false from by unfold isK narK; simp; omega)
    have e12 : (k == 12) = false := by simp; omega
    have e18 : (k == 18) = false := by simp; omega
    have e19 : (k == 19) = false := by simp; omega
    have e20 : (k == 20) = false := by simp; omega
    have e22 : (k == 22) = false := by simp; omega
    have e26 : (k == 26) = false := by simp; omega
    have e28 : (k == 28) = false := by simp; omega
    have e30 : (k == 30) = false := by simp; omega
    clear h
    go_enter Tryz.func28, Tryz.ntmps28
    go_wp2
    go_ret
    exact ⟨by rw [HR.out]; rfl, rfl⟩
theorem strIsOk : SIsOk := fun k w => (strIs k w).mono fun _ _ ⟨h, e⟩ => ⟨h, e ▸ Below.refl _ _⟩
end Go.Proofs.YtildhebaikeknaaGreat

/-! Ref18c -/
namespace Go.Proofs.YtildhebaikeknaaGreat
open Go.RowKit
set_option linter.unusedVariables false

def desR (c : Int) : Int × Bool := fndI (fun s => (findS16 s c).2) tabSets
theorem desR_hit {c : Int} {k : Nat} (h : k < tabSets.length) (ha : ∀ i, i < k → (findS16 (tabSets.getD i 0) c).2 = false) (hk : (findS16 (tabSets.getD k 0) c).2 = true) : desR c = (tabSets.getD k 0, true) := fndI_hit (p := fun s => (findS16 s c).2) h ha hk
theorem desR_none {c : Int} (ha : ∀ i, i < tabSets.length → (findS16 (tabSets.getD i 0) c).2 = false) : desR c = (0, false) := fndI_none (p := fun s => (findS16 s c).2) ha
set_option maxHeartbeats 8000000 in
set_option maxRecDepth 100000 in
theorem refOne5 (S : Nat) (c g q p q2 le : Int) (w : World) (h : SetsAt S w) (h1 : ctlB c = false) (h2 : findS16 g c = (q, false)) (h3 : findS16 103 c = (q2, false)) (h4 : accS c = (p, le, false)) : Calls Tryz.prog 53 #[.pointer (some ⟨S, 0, none⟩), .int .i64 c, .int .i64 g] w fun e w' => ∃ x, e = .returned (.tuple #[x, .int .i64 (if (desR c).2 = true then (desR c).1 else g), .bool (desR c).2]) ∧ Own .u8 5 w.heap.size w' x (if (desR c).2 = true then escP 0 (desR c).1 ++ bytP (findS16 (desR c).1 c).1 else []) ∧ Below w.heap.size w w' := by
  obtain ⟨b8, b10, b12, b13, b32⟩ : (c == 8) = false ∧ (c == 10) = false ∧ (c == 12) = false ∧ (c == 13) = false ∧ (c == 32) = false := by
    unfold ctlB at h1
    simp only [Bool.or_eq_false_iff] at h1
    exact ⟨h1.2.1, h1.2.2.1, h1.2.2.2.1, h1.2.2.2.2, h1.1⟩
  have HS := hid h
  have HF1 := hid (fun w h => refFind16 S g c w h)
  rw [h2] at HF1
  have HF2 := hid (fun w h => refFind16 S 103 c w h)
  rw [h3] at HF2
  have HA := hid (fun w h => refAccent16 S c w h)
  rw [h4] at HA
  have HF := hid (fun s w h => refFind16 S s c w h)
  have HK := hid (Nat.le_refl 0)
  have HK2 := hid (Nat.le_refl 0)
  have HHIT := hid (fun k (h : k < tabSets.length) ha hk => desR_hit (c := c) (k := k) h ha hk)
  have HNON := hid (fun ha => desR_none (c := c) ha)
  have HMEM := hid (show ∀ k, k < tabSets.length → tabSets.getD k 0 ∈ tabSets ++ [103] from fun k hk => by
    rw [List.getD_eq_getElem?_getD, List.getElem?_eq_getElem hk]
    exact List.mem_append_left _ (List.getElem_mem hk))
  generalize desR c = D at *
  obtain ⟨rg, hrg⟩ : ∃ x, x = (if D.2 = true then D.1 else g) := ⟨_, rfl⟩
  obtain ⟨rb, hrb⟩ : ∃ x, x = (if D.2 = true then escP 0 D.1 ++ bytP (findS16 D.1 c).1 else []) := ⟨_, rfl⟩
  obtain ⟨rk, hrk⟩ : ∃ x, x = D.2 := ⟨_, rfl⟩
  rw [← hrg, ← hrb, ← hrk]
  have HRG := hid hrg
  have HRB := hid hrb
  have HRK := hid hrk
  clear hrg hrb hrk
  obtain ⟨v1, v2, v3, B, hx, -, -, hsl, -⟩ := h
  have HX := hid hx
  have HSL := hid hsl
  obtain ⟨a3, c3, hv3⟩ := hsl.form
  have HT6 := hid (show tabSets.length = 6 from rfl)
  rw [HT6.out] at hv3
  subst hv3
  clear h1 h2 h3 h4 hx hsl
  go_enter Tryz.func53, Tryz.ntmps53
  go_wp2_with (first | (have _u := HK; clear _u; go_at_call 72; refine (HF1.out _ HS.out).mono ?_; rintro e w1 ⟨rfl, rfl⟩; clear HK) | (have _u := HK2; clear _u; go_at_call 72; refine (HF2.out _ HS.out).mono ?_; rintro e w2 ⟨rfl, rfl⟩; clear HK2) | (go_at_call 74; refine (HA.out _ HS.out).mono ?_; rintro e w3 ⟨rfl, hb3⟩; have HB3 := hid hb3; clear hb3))
  go_loopw [6, 7, 8, 17] (fun rv gv kv iv wr => ∃ (k : Nat), k ≤ 6 ∧ rv = .slice none 0 0 ∧ gv = .int .i64 0 ∧ kv = .bool false ∧ iv = .int .i64 (k : Int) ∧ Hid (Below w.heap.size w wr) ∧ Hid (∀ i, i < k → (findS16 (tabSets.getD i 0) c).2 = false)) (fun _ _ _ iv _ => 6 - (intOf iv).toNat)
  case atStart => exact ⟨0, Nat.zero_le _, rfl, rfl, rfl, rfl, HB3.out, fun i hi => absurd hi (by omega)⟩
  case round =>
    obtain ⟨k, hk, rfl, rfl, rfl, rfl, hbel, hno⟩ := hrel
    have HXr := hid (HX.out.below hbel.out HX.out.lt)
    have HSr := hid (HS.out.below hbel.out)
    have x2 := HXr.out.cell 2
    simp only [List.getElem?_cons_zero, List.getElem?_cons_succ] at x2
    by_cases hlt : k < 6
    · obtain ⟨a', cap', hv', hl', hm', hc'⟩ := HSL.out
      injection hv' with hv1 hv2 hv3
      rcases hc' with hc' | ⟨b1, o1, hab, hb1, hc⟩
      · exact absurd hc' (by have := HT6.out; omega)
      rw [hab] at hv1
      subst hv1
      have hb1' := hb1 (by have := HT6.out; omega)
      have HLT := hid hb1'
      have d0 := hc k (by have := HT6.out; omega)
      have D0 := hid d0
      have d1 := (hbel.out.cell (p := ⟨b1, o1 + k, none⟩) hb1').trans d0
      have hms := HMEM.out k (by have := HT6.out; omega)
      have HH := hid (fun ha => HHIT.out k (by have := HT6.out; omega) hno.out ha)
      have HNX := hid (fun (h : (findS16 (tabSets.getD k 0) c).2 = false) => (show ∀ i, i < k + 1 → (findS16 (tabSets.getD i 0) c).2 = false from fun i hi => by
        rcases Nat.lt_or_ge i k with h1 | h1
        · exact hno.out i h1
        · obtain rfl : i = k := by omega
          exact h))
      have hlt2 : (k : Int) < 6 := by omega
      clear hc hb1 hb1' hv2 hv3 hl' hm' hab d0
      have HDE := hid (fun w => refEsc 0 (tabSets.getD k 0) w (by decide) (by decide) hms)
      have HFK := hid (fun w h => HF.out (tabSets.getD k 0) w h)
      have HNXT : Hid (tabSets.getD k 0 = tabSets.getD k 0) := hid rfl
      generalize tabSets.getD k 0 = s at d1 D0 HH HNX HDE HFK hms
      clear HNXT
      obtain ⟨⟨p0, ok⟩, hp⟩ : ∃ y, y = findS16 s c := ⟨_, rfl⟩
      rw [← hp] at HFK HH HNX
      simp only at HFK HH
      have HP := hid hp.symm
      cases ok with
      | false =>
        have HN2 := hid (HNX.out rfl)
        clear hp HH HDE HNX
        go_wp2_with (go_at_call 72; refine (HFK.out _ HSr.out).mono ?_; rintro e w2 ⟨rfl, rfl⟩)
        go_roundw
        case rel => exact ⟨k + 1, by omega, rfl, rfl, rfl, by go_num, hbel.out, HN2.out⟩
        case measure => simp [intOf]; omega
      | true =>
        obtain ⟨r, hr, hf, hv, ht⟩ := find_row hp.symm
        have HCH := hid (fun w => refBytesRow hr w)
        rw [ht] at HCH
        have HD := hid (HH.out rfl)
        have hE := esc_len 0 s
        have hY := byt_len p0
        have hY0 : 0 < (bytP p0).length := by unfold bytP; split <;> simp
        have HL := hid (show escP 0 s ++ bytP p0 = escP 0 D.1 ++ bytP (findS16 D.1 c).1 from by rw [HD.out, HP.out])
        generalize escP 0 s = E at HDE HL hE
        generalize bytP p0 = Y at HCH HL hY hY0
        have HYL := hid (And.intro hY0 (show E.length + Y.length ≤ 100 from by omega))
        clear hp HH HNX hr hf hv ht hms hE hY hY0
        go_wp2_with (go_at_call 72; refine (HFK.out _ HSr.out).mono ?_; rintro e w2 ⟨rfl, rfl⟩)
        have HBq := hid (hbel.out.trans ((Below.refl wr.heap.size wr).drew.mono hbel.out.size))
        have HCC := hid (fun (w' : World) (h : Below w.heap.size w w') => (show w'.cell? ⟨S, 2, none⟩ = some (.slice (some ⟨b1, o1, none⟩) 6 c3) ∧ w'.cell? ⟨b1, o1 + k, none⟩ = some (.int .i64 s) from ⟨(HX.out.below h HX.out.lt).cell 2, (h.cell (p := ⟨b1, o1 + k, none⟩) HLT.out).trans D0.out⟩))
        clear x2 d1
        go_region_held3 (fun w' => w'.cell? ⟨S, 2, none⟩ = some (.slice (some ⟨b1, o1, none⟩) 6 c3) ∧ w'.cell? ⟨b1, o1 + k, none⟩ = some (.int .i64 s))
          (first | exact HCC.out _ HB7.out | exact HCC.out _ HBb.out | exact HCC.out _ HBa.out | exact HCC.out _ HBq.out)
          (first
            | (have _u := HBa; clear _u; go_simp; go_at_call 75; with_reducible refine (HDE.out _).mono ?_; rintro e wb ⟨vE, rfl, hoE, hbb⟩; have HBb := hid (HBa.out.trans (hbb.mono HBa.out.size)); have HE := hid (hoE.mono HBa.out.size); have HY := hid (HY0.out.below hbb); clear hbb hoE)
            | (have _u := HBa; clear _u; go_simp; go_at_call 73; with_reducible refine (HCH.out _).mono ?_; rintro e wb ⟨vY, rfl, hoY, hbb⟩; have HBb := hid (HBa.out.trans (hbb.mono HBa.out.size)); have HY := hid hoY.sl; have HE := hid (HE0.out.below hbb); clear hbb hoY)
            | (go_simp; go_at_call 75; with_reducible refine (HDE.out _).mono ?_; rintro e wa ⟨vE, rfl, hoE, hba⟩; have HBa := hid (HBq.out.trans (hba.mono HBq.out.size)); have HE0 := hid (hoE.mono HBq.out.size); clear hba hoE)
            | (go_simp; go_at_call 73; with_reducible refine (HCH.out _).mono ?_; rintro e wa ⟨vY, rfl, hoY, hba⟩; have HBa := hid (HBq.out.trans (hba.mono HBq.out.size)); have HY0 := hid hoY.sl; clear hba hoY)
            | (refine step_app18 _ rfl _ _ 42 rfl .u8 w.heap.size 5 1 Tryz.underlying42 Tryz.infoU8 vE E Y rfl HE.out vY rfl HY.out HYL.out.1 (by have := HYL.out.2; unfold maxLen; omega) (by have := HYL.out.2; omega) HBb.out.size ?_; intro g7 c7 w7 ho7 hg7 hb7; have HO7 := hid ho7; have HB7 := hid (HBb.out.trans hb7); clear ho7 hg7 hb7))
        all_goals go_wp2_with (fail)
        all_goals go_ret3
        all_goals exact ⟨_, by rw [HRG.out, HRK.out, HD.out]; rfl, by rw [HRB.out, ← HL.out, HD.out, if_pos rfl]; exact HO7.out, HB7.out⟩
    · obtain rfl : k = 6 := by omega
      have HD := hid (HNON.out (by rw [HT6.out]; exact hno.out))
      go_wp2
      go_ret3
      exact ⟨_, by rw [HRG.out, HRK.out, HD.out]; rfl, by rw [HRB.out, HD.out]; exact Own.nil .u8 5 _ _, hbel.out⟩
theorem refOne18 (S : Nat) (c g : Int) (w : World) (h : SetsAt S w) : Calls Tryz.prog 53 #[.pointer (some ⟨S, 0, none⟩), .int .i64 c, .int .i64 g] w fun e w' => ∃ x, e = .returned (.tuple #[x, .int .i64 (oneG g c), .bool (oneP g c).isSome]) ∧ Own .u8 5 w.heap.size w' x (oneB g c) ∧ Below w.heap.size w w' := by
  unfold oneG oneB oneP
  by_cases h1 : ctlB c = true
  · simp only [if_pos h1, Option.isSome_some]
    exact refOne1 S c g w h h1
  have h1' : ctlB c = false := by simpa using h1
  simp only [if_neg h1]
  generalize hf : findS16 g c = F
  obtain ⟨q, k⟩ := F
  cases k with
  | true =>
    simp only [if_true, Option.isSome_some]
    exact refOne2 S c g q w h h1' hf
  | false =>
    simp only [Bool.false_eq_true, if_false]
    generalize hf2 : findS16 103 c = F
    obtain ⟨q2, k⟩ := F
    cases k with
    | true =>
      simp only [if_true, Option.isSome_some]
      exact refOne3 S c g q q2 w h h1' hf hf2
    | false =>
      simp only [Bool.false_eq_true, if_false]
      generalize ha : accS c = F
      obtain ⟨p, le, k⟩ := F
      cases k with
      | true =>
        have := refOne4 S c g q p q2 le w h h1' hf hf2 ha
        simp only [if_true]
        by_cases h5 : le = 32 ∨ g = 102 ∨ g = 6
        · simp only [if_pos h5, Option.isSome_some] at this ⊢
          exact this
        · simp only [if_neg h5, Option.isSome_some] at this ⊢
          exact this
      | false =>
        have := refOne5 S c g q p q2 le w h h1' hf hf2 ha
        simp only [Bool.false_eq_true, if_false]
        change _ at this
        unfold desR at this
        generalize fndI (fun s => (findS16 s c).2) tabSets = D at this ⊢
        obtain ⟨d, ok⟩ := D
        cases ok with
        | true => simpa only [if_true, Option.isSome_some] using this
        | false => simpa only [Bool.false_eq_true, if_false, Option.isSome_none] using this
end Go.Proofs.YtildhebaikeknaaGreat

/-! Ref18d -/
namespace Go.Proofs.YtildhebaikeknaaGreat
open Go.RowKit
set_option linter.unusedVariables false

set_option maxHeartbeats 8000000 in
set_option maxRecDepth 100000 in
theorem refPut18 (S : Nat) (v : Value) (s : List Int) (w : World) (h : SetsAt S w) (hs : Sl .i64 w v s) (hl : s.length ≤ 100000) : Calls Tryz.prog 36 #[.pointer (some ⟨S, 0, none⟩), v] w fun e w' =>
    ∃ x, e = .returned (.tuple #[x, .int .i64 (outAt (put18 s)), .int .i64 (outE 14 (put18 s))]) ∧ Own .u8 5 w.heap.size w' x (outL (put18 s)) ∧ Below w.heap.size w w' := by
  have HS := hid h
  obtain ⟨a1, cap1, rfl, q1, -, h1⟩ := hs
  obtain ⟨n, hn⟩ : ∃ n, n = s.length := ⟨_, rfl⟩
  have HN := hid hn
  have HC1 := hid h1
  rw [← hn] at q1 hl ⊢
  clear h1 hn h
  go_enter Tryz.func36, Tryz.ntmps36
  go_wp2
  go_loopw [4, 5, 6, 7, 8, 9] (fun rv av ev bv gv iv wr => ∃ (j : Nat) (x : List Int) (g : Int), j ≤ n ∧ x.length ≤ 6 * j ∧ rv = .slice none 0 0 ∧ av = .int .i64 0 ∧ ev = .int .i64 0 ∧ gv = .int .i64 g ∧ iv = .int .i64 (j : Int) ∧ Hid (Own .u8 5 w.heap.size wr bv x) ∧ Hid (Below w.heap.size w wr) ∧ Hid (put18 s = aheadP j x (putF g (s.drop j)))) (fun _ _ _ _ _ iv _ => n - (intOf iv).toNat)
  case atStart => exact ⟨0, [], 102, Nat.zero_le _, by simp, rfl, rfl, rfl, rfl, rfl, Own.nil _ _ _ _, Below.refl _ _, (aheadP_nil _).symm⟩
  case round =>
    obtain ⟨j, x, g, hj, hxl, rfl, rfl, rfl, rfl, rfl, hown, hbel, hput⟩ := hrel
    by_cases hlt : j < n
    · rcases HC1.out with hcc | ⟨b1, o1, rfl, hb1, hc⟩
      · omega
      have hb1' := hb1 (by have := HN.out; omega)
      have d1 := (hbel.out.cell (p := ⟨b1, o1 + j, none⟩) hb1').trans (hc j (by have := HN.out; omega))
      have hdr : s.drop j = s.getD j 0 :: s.drop (j + 1) := drop_getD rfl (by have := HN.out; omega)
      rw [hdr] at hput
      clear hc hb1 hb1' hdr
      generalize s.getD j 0 = c at d1 hput
      have HSr := hid (HS.out.below hbel.out)
      have HON := hid (fun w h => refOne18 S c g w h)
      unfold oneG oneB at HON
      generalize ho : oneP g c = O at HON
      cases O with
      | none =>
        have HP := hid (show put18 s = .inr j from by rw [hput.out]; exact aheadP_none ho)
        dsimp only [Option.isSome] at HON
        clear ho
        go_wp2_with (go_at_call 53; refine (HON.out _ HSr.out).mono ?_; rintro e w2 ⟨v2, rfl, ho2, hb2⟩; have HB2 := hid (hbel.out.trans (hb2.mono hbel.out.size)); clear ho2 hb2)
        go_ret3
        exact ⟨_, by rw [HP.out]; rfl, by rw [HP.out]; exact Own.nil .u8 5 _ _, HB2.out⟩
      | some y =>
        obtain ⟨bs, h⟩ := y
        have HP := hid (show put18 s = aheadP (j + 1) (x ++ bs) (putF h (s.drop (j + 1))) from by rw [hput.out]; exact aheadP_some ho)
        dsimp only [Option.isSome] at HON
        have hu := (one_u8 ho).2
        have HBL := hid (show x.length + bs.length ≤ 700000 from by omega)
        have HXL := hid (show (x ++ bs).length ≤ 6 * (j + 1) from by rw [List.length_append]; omega)
        clear ho hu
        go_wp2_with (first
          | (go_at_call 53; refine (HON.out _ HSr.out).mono ?_; rintro e w2 ⟨v2, rfl, ho2, hb2⟩; have HB2 := hid (hbel.out.trans (hb2.mono hbel.out.size)); have HS2 := hid ho2.sl; have HO2 := hid (hown.out.below hb2); clear ho2 hb2)
          | (at_builtin; go_loud (refine wpList_app _ rfl _ _ 42 rfl .u8 w.heap.size 5 1 Tryz.underlying42 Tryz.infoU8 _ x bs rfl HO2.out v2 rfl HS2.out (by have := HBL.out; unfold maxLen; omega) (by have := HBL.out; omega) HB2.out.size ?_; intro v5 w5 ho5 hg5 hb5 hn5; have HO5 := hid ho5; have HB5 := hid (HB2.out.trans hb5); clear ho5 hg5 hb5 hn5)))
        go_roundw
        case rel => exact ⟨j + 1, x ++ bs, h, by omega, HXL.out, rfl, rfl, rfl, rfl, by go_num, HO5.out, HB5.out, HP.out⟩
        case measure => simp [intOf]; omega
    · obtain rfl : j = n := by omega
      have HB := hid (show put18 s = .inl x from by rw [hput.out, HN.out, List.drop_length]; simp [putF, aheadP])
      go_wp2
      go_ret3
      exact ⟨_, by rw [HB.out]; rfl, by rw [HB.out]; exact hown.out, hbel.out⟩
set_option maxHeartbeats 2000000 in
theorem refPutStr (S : Nat) (k : Int) (v : Value) (s : List Int) (w : World) (h : SetsAt S w) (hs : Sl .i64 w v s) (hl : s.length ≤ 100000) : Calls Tryz.prog 19 #[.pointer (some ⟨S, 0, none⟩), .int .i64 k, v] w fun e w' =>
    ∃ x, e = .returned (.tuple #[x, .int .i64 (sput k s).2.1, .int .i64 (sput k s).2.2]) ∧ Sl .u8 w' x (sput k s).1 ∧ Below w.heap.size w w' := by
  by_cases h12 : k = 12
  · subst h12
    have HSP := hid (show sput 12 s = res3 14 (putU s) from rfl)
    have HC := hid (refPut13 v s w hs hl)
    clear h hs hl
    go_enter Tryz.func19, Tryz.ntmps19
    go_wp2_with (go_at_call 35; refine HC.out.mono ?_; rintro e w2 ⟨v2, rfl, ho2, hb2⟩; have HO2 := hid ho2; have HB2 := hid hb2; clear ho2 hb2)
    go_ret3
    exact ⟨_, by rw [HSP.out]; rfl, by rw [HSP.out]; exact HO2.out, HB2.out⟩
  have b12 : (k == 12) = false := by simpa using h12
  by_cases h20 : k = 20
  · subst h20
    have HSP := hid (show sput 20 s = res3 14 (put18 s) from rfl)
    have HC := hid (refPut18 S v s w h hs hl)
    clear h hs hl
    go_enter Tryz.func19, Tryz.ntmps19
    go_wp2_with (go_at_call 36; refine HC.out.mono ?_; rintro e w2 ⟨v2, rfl, ho2, hb2⟩; have HO2 := hid ho2.sl; have HB2 := hid hb2; clear ho2 hb2)
    go_ret3
    exact ⟨_, by rw [HSP.out]; rfl, by rw [HSP.out]; exact HO2.out, HB2.out⟩
  have b20 : (k == 20) = false := by simpa using h20
  by_cases h30 : k = 30
  · subst h30
    have HSP := hid (show sput 30 s = wput 2 s from rfl)
    have HC := hid (refPut14 v s 2 w hs hl)
    clear h hs hl
    go_enter Tryz.func19, Tryz.ntmps19
    go_wp2_with (go_at_call 37; refine HC.out.mono ?_; rintro e w2 ⟨v2, rfl, ho2, hb2⟩; have HO2 := hid ho2; have HB2 := hid hb2; clear ho2 hb2)
    go_ret3
    exact ⟨_, by rw [HSP.out]; rfl, by rw [HSP.out]; exact HO2.out, HB2.out⟩
  have b30 : (k == 30) = false := by simpa using h30
  by_cases h28 : k = 28
  · subst h28
    have HSP := hid (show sput 28 s = wput 4 s from rfl)
    have HC := hid (refPut14 v s 4 w hs hl)
    clear h hs hl
    go_enter Tryz.func19, Tryz.ntmps19
    go_wp2_with (go_at_call 37; refine HC.out.mono ?_; rintro e w2 ⟨v2, rfl, ho2, hb2⟩; have HO2 := hid ho2; have HB2 := hid hb2; clear ho2 hb2)
    go_ret3
    exact ⟨_, by rw [HSP.out]; rfl, by rw [HSP.out]; exact HO2.out, HB2.out⟩
  have b28 : (k == 28) = false := by simpa using h28
  have HSP := hid (show sput k s = nput k s from by unfold sput; rw [if_neg h12, if_neg h20, if_neg h30, if_neg h28])
  have HC := hid (refPut15 k v s w hs (by omega))
  clear h hs hl h12 h20 h30 h28
  go_enter Tryz.func19, Tryz.ntmps19
  go_wp2_with (go_at_call 38; refine HC.out.mono ?_; rintro e w2 ⟨v2, rfl, ho2, hb2⟩; have HO2 := hid ho2; have HB2 := hid hb2; clear ho2 hb2)
  go_ret3
  exact ⟨_, by rw [HSP.out]; rfl, by rw [HSP.out]; exact HO2.out, HB2.out⟩
set_option maxHeartbeats 2000000 in
theorem refEncode20 (S : Nat) (k : Int) (v : Value) (s : List Int) (w : World) (h : SetsAt S w) (hs : Sl .i64 w v s) (hl : s.length ≤ 100000) : Calls Tryz.prog 20 #[.pointer (some ⟨S, 0, none⟩), .int .i64 k, v] w fun e w' =>
    ∃ x, e = .returned (.tuple #[x, .int .i64 (encS k s).2.1, .int .i64 (encS k s).2.2]) ∧ Own .u8 5 w.heap.size w' x (encS k s).1 ∧ Below w.heap.size w w' := by
  have HC := hid (refPutStr S k v s w h hs hl)
  have hlen := sput_len (k := k) hl
  have hk := fun h => isK_of (k := k) (s := s) h
  obtain ⟨E, hE⟩ : ∃ E, E = encS k s := ⟨_, rfl⟩
  rw [← hE]
  have HE := hid hE
  unfold encS at HE
  generalize sput k s = R at HC hlen hk HE
  obtain ⟨b, at_, e⟩ := R
  dsimp only at HC hlen hk HE
  clear hE h hs hl
  by_cases he : e = 0
  · subst he
    obtain ⟨k0, k1⟩ := hk rfl
    have HW := hid (fun v w h => refWrap 0 k false v b w h ⟨⟨Int.le_refl 0, (by decide : (0 : Int) ≤ 3)⟩, ⟨k0, (by omega : k ≤ 268435455)⟩, ⟨(by omega : (0 : Int) ≤ (b.length : Int)), (by omega : (b.length : Int) ≤ 2147483647)⟩⟩ (by omega))
    have HEE := hid (HE.out.trans (if_pos rfl))
    clear HE hk hlen
    go_enter Tryz.func20, Tryz.ntmps20
    go_wp2_with (first
      | (go_at_call 19; refine HC.out.mono ?_; rintro e w2 ⟨v2, rfl, ho2, hb2⟩; have HO2 := hid ho2; have HB2 := hid hb2; clear ho2 hb2)
      | (go_at_call 39; refine (HW.out _ _ HO2.out).mono ?_; rintro e w3 ⟨v3, rfl, ho3, hb3⟩; have HO3 := hid (ho3.mono HB2.out.size); have HB3 := hid (HB2.out.trans (hb3.mono HB2.out.size)); clear ho3 hb3))
    go_ret3
    exact ⟨_, by rw [HEE.out]; rfl, by rw [HEE.out]; exact HO3.out, HB3.out⟩
  · have e1 : (e == 0) = false := by simpa using he
    have e2 : (e != 0) = true := by simpa using he
    have HEE := hid (HE.out.trans (if_neg he))
    clear HE hk hlen he
    go_enter Tryz.func20, Tryz.ntmps20
    go_wp2_with (go_at_call 19; refine HC.out.mono ?_; rintro e w2 ⟨v2, rfl, ho2, hb2⟩; have HB2 := hid hb2; clear ho2 hb2)
    go_ret3
    exact ⟨_, by rw [HEE.out]; rfl, by rw [HEE.out]; exact Own.nil .u8 5 _ _, HB2.out⟩
set_option maxHeartbeats 2000000 in
theorem refFits20 (S : Nat) (k : Int) (v : Value) (s : List Int) (w : World) (h : SetsAt S w) (hs : Sl .i64 w v s) (hl : s.length ≤ 100000) : Calls Tryz.prog 8 #[.pointer (some ⟨S, 0, none⟩), .int .i64 k, v] w fun e w' =>
    e = .returned (.bool (fitB k s)) ∧ Below w.heap.size w w' := by
  have HC := hid (refPutStr S k v s w h hs hl)
  obtain ⟨r, hr⟩ : ∃ r, r = fitB k s := ⟨_, rfl⟩
  rw [← hr]
  obtain ⟨a1, c1, rfl⟩ := hs.form
  obtain ⟨n, hn⟩ : ∃ n, n = s.length := ⟨_, rfl⟩
  have hr2 : r = (decide ((sput k s).2.2 = 0) && decide (0 < n)) := by
    rw [hr, hn]
    unfold fitB
    cases s <;> simp
  rw [← hn] at HC ⊢
  generalize sput k s = R at HC hr2
  obtain ⟨b, at_, e⟩ := R
  dsimp only at HC hr2
  clear hn hr h hs hl
  by_cases he : e = 0
  · subst he
    have HQ := hid (show r = decide (0 < n) from by rw [hr2]; simp)
    clear hr2
    go_enter Tryz.func8, Tryz.ntmps8
    go_wp2_with (go_at_call 19; refine HC.out.mono ?_; rintro e w2 ⟨v2, rfl, ho2, hb2⟩; have HB2 := hid hb2; clear ho2 hb2)
    go_ret
    exact ⟨by rw [HQ.out]; rfl, HB2.out⟩
  · have e1 : (e == 0) = false := by simpa using he
    have HR := hid (show r = false from by rw [hr2, decide_eq_false he]; rfl)
    clear hr2 he
    go_enter Tryz.func8, Tryz.ntmps8
    go_wp2_with (go_at_call 19; refine HC.out.mono ?_; rintro e w2 ⟨v2, rfl, ho2, hb2⟩; have HB2 := hid hb2; clear ho2 hb2)
    go_ret
    exact ⟨by rw [HR.out]; rfl, HB2.out⟩
end Go.Proofs.YtildhebaikeknaaGreat
