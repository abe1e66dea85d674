/- Several texts in one: Ref10b. -/
import Derived.Test.YtidjjaginindoaaGreatPk20
import Derived.Test.YtidjjaginindoaaGreatPk7
import Derived.Test.YtidjjaginindoaaGreatPk11
/-! Ref10b -/
namespace Go.Proofs.YtidjjaginindoaaGreat
open Go.RowKit

theorem i64_of10 {x : Int} (h : inI x = true) : I64n x := by
  unfold inI at h
  have h2 := of_decide_eq_true h
  exact h2
def atG (q : Cp) : Int := match q.s with | none => -1 | some _ => (q.p.length : Int)
theorem out_none {q : Cp} (h : q.s = none) : atG q = -1 := by unfold atG; rw [h]
theorem out_some {q : Cp} {S : Int} (h : q.s = some S) : atG q = (q.p.length : Int) := by unfold atG; rw [h]
theorem out_at {q : Cp} {S : Int} (h : q.s = some S) : q.out.getD q.p.length 0 = S := by
  unfold Cp.out
  rw [h, List.getD_eq_getElem?_getD]
  simp
theorem out_len {q : Cp} {S : Int} (h : q.s = some S) : q.out.length = q.p.length + 1 + q.m.length := by
  unfold Cp.out
  rw [h]
  simp
  omega
theorem out_set {q : Cp} {S : Int} (h : q.s = some S) (x : Int) : q.out.set q.p.length x = (⟨q.p, some x, q.m⟩ : Cp).out := by
  unfold Cp.out
  rw [h]
  simp
theorem out_last {q : Cp} {S y : Int} (h : q.s = some S) (hy : q.m.getLast? = some y) : q.out.getD (q.p.length + q.m.length) 0 = y := by
  have hm : q.m ≠ [] := fun e => by rw [e] at hy; cases hy
  have e : q.out.getLast? = some y := by
    unfold Cp.out
    rw [h, ← List.append_assoc, List.getLast?_append, hy]
    rfl
  rw [List.getLast?_eq_getElem?, out_len h] at e
  rw [List.getD_eq_getElem?_getD, show q.p.length + q.m.length = q.p.length + 1 + q.m.length - 1 by omega, e]
  rfl
theorem offG_nil {cl : Int → Int} {q : Cp} {c : Int} (h : q.m.getLast? = none) : offG cl q.m c = false := by unfold offG; rw [h]
theorem offG_some {cl : Int → Int} {q : Cp} {c y : Int} (h : q.m.getLast? = some y) : offG cl q.m c = (cl y == 0 || decide (cl c ≤ cl y)) := by unfold offG; rw [h]
theorem at_new (l : List Int) (c : Int) : atG ⟨l, some c, []⟩ = (l.length : Int) := rfl
theorem m_len {l : List Int} {y : Int} (h : l.getLast? = some y) : 0 < l.length := by
  cases l with
  | nil => cases h
  | cons => simp
theorem m_nil {l : List Int} (h : l.getLast? = none) : l = [] := by rwa [List.getLast?_eq_none_iff] at h

set_option maxRecDepth 10000 in
set_option maxHeartbeats 8000000 in
theorem refCompose10 (B : Nat) (v : Value) (s : List Int) (w : World) (h : TabsAt B w) (hs : Sl .i64 w v s) (hi : s.all inI = true) (hl : s.length ≤ 1000000) : Calls Tryz.prog 63 #[.pointer (some ⟨B, 0, none⟩), v] w fun e w' => ∃ x, e = .returned x ∧ Own .i64 3 w.heap.size w' x (compG classS twoS s) ∧ Below w.heap.size w w' := by
  have HT := hid h
  have HS := hid hs
  have ml := hs.len
  obtain ⟨a1, cap1, rfl, q1, -, h1⟩ := hs
  obtain ⟨n, hn⟩ : ∃ n, n = s.length := ⟨_, rfl⟩
  have HN := hid hn
  have H1 := hid h1
  have HI := hid (List.all_eq_true.1 hi)
  have HL := hid hl
  have HNX := hid (fun j (hj : j < n) => (show fromG classS twoS (s.take (j + 1)) = stepG classS twoS (fromG classS twoS (s.take j)) (s.getD j 0) from by
    have e : s.getD j 0 = s[j]'(by omega) := by rw [List.getD_eq_getElem?_getD, List.getElem?_eq_getElem (by omega)]; rfl
    rw [e, List.take_succ_eq_append_getElem (by omega), fromG_snoc]))
  have HLE := hid (fun j => (show (fromG classS twoS (s.take j)).out.length ≤ 1000000 from by
    have h2 := comp_len (cl := classS) (two := twoS) (s.take j)
    rw [List.length_take] at h2
    have h3 : (compG classS twoS (s.take j)).length ≤ 1000000 := by omega
    exact h3))
  have HIN := hid (fun j => (show ∀ x ∈ (fromG classS twoS (s.take j)).out, inI x = true from
    comp_all (cl := classS) (R := fun x => inI x = true) (fun a b h => two_inI h) (s.take j) (fun x hx => List.all_eq_true.1 hi x (List.mem_of_mem_take hx))))
  have HCI := hid (fun j (hj : j < n) => (show inI (s.getD j 0) = true from by
    have e : s.getD j 0 = s[j]'(by omega) := by rw [List.getD_eq_getElem?_getD, List.getElem?_eq_getElem (by omega)]; rfl
    rw [e]
    exact List.all_eq_true.1 hi _ (List.getElem_mem _)))
  rw [← hn] at ml q1 H1 ⊢
  clear h h1 hi hl hn
  go_enter Tryz.func63, Tryz.ntmps63
  go_wp2_with (fail)
  go_loopw [5, 6, 7] (fun lv av iv wr => ∃ (j : Nat) (q : Cp), j ≤ n ∧ iv = .int .i64 j ∧ Hid (q = fromG classS twoS (s.take j)) ∧ av = .int .i64 (atG q) ∧ Hid (Own .i64 3 w.heap.size wr lv q.out) ∧ Hid (Below w.heap.size w wr)) (fun _ _ iv _ => n - (intOf iv).toNat)
  case atStart => exact ⟨0, _, by omega, rfl, rfl, rfl, Own.nil _ _ _ _, Below.refl _ _⟩
  case round =>
    obtain ⟨j, q, hj, rfl, hq, rfl, hown, hbel⟩ := hrel
    obtain ⟨al, cl, hal⟩ := hown.out.sl.form
    obtain ⟨nf, hnf⟩ : ∃ nf, nf = q.out.length := ⟨_, rfl⟩
    have hfl : nf ≤ 1000000 := by rw [hnf, hq.out]; exact HLE.out j
    rw [← hnf] at hal
    subst hal
    have HNF := hid hnf
    clear hnf
    by_cases hlt : j < n
    · rcases H1.out with hc | ⟨b1, o1, rfl, hb1, c1⟩
      · omega
      have d1 := (hbel.out.cell (p := ⟨b1, o1 + j, none⟩) (hb1 (by omega))).trans (c1 j hlt)
      have HTJ := hid (HT.out.below hbel.out)
      have HNJ := hid ((HNX.out j hlt).trans (congrArg (fun q => stepG classS twoS q (s.getD j 0)) hq.out.symm))
      have HCJ := hid (HCI.out j hlt)
      have HQI := hid (show ∀ x ∈ q.out, inI x = true from by rw [hq.out]; exact HIN.out j)
      have hsz := hbel.out.size
      clear c1 hb1
      generalize s.getD j 0 = c at d1 HNJ HCJ
      have HC := hid (fun w h => refTClass B c w h)
      have HLAST := hid (fun y (hy : q.m.getLast? = some y) => offG_some (cl := classS) (c := c) hy)
      obtain ⟨cc, hcc⟩ : ∃ cc, cc = classS c := ⟨_, rfl⟩
      rw [← hcc] at HC
      have HCC := hid hcc
      clear hcc
      cases hqs : q.s with
      | none =>
        rw [out_none hqs]
        have HQS := hid hqs
        clear hqs
        by_cases hc0 : cc = 0
        · have HE := hid (HNJ.out.trans (step_new (by rw [← HCC.out]; exact hc0) (by rw [HQS.out]; intro S h; cases h)))
          go_wp2_with (first
            | (at_builtin; go_loud (refine wpList_app _ rfl _ _ 22 rfl .i64 w.heap.size 3 8 Tryz.underlying22 Tryz.infoI64 _ q.out [c] rfl (hown.out.below (by (repeat (first | exact Below.refl _ _ | exact below_drewN _ | refine Below.drew ?_ | refine Below.alloc ?_ (by simp) _ | refine Below.setCell ?_ (by simp) _ | refine below_drewN' ?_ _)))) _ rfl (one_sl (by first | simp | rfl)) (by have := HNF.out; unfold maxLen; simp; omega) (by have := HNF.out; simp; omega) (by simp; omega) ?_); intro v5 w5 ho5 hg5 hb5 hn5; clear hg5 hn5)
            | (go_at_call 46; refine (HC.out _ HTJ.out).mono ?_; rintro e w1 ⟨rfl, rfl⟩))
          go_roundw
          case rel =>
            refine ⟨j + 1, _, by omega, by go_num, HE.out.symm, by rw [at_new, ← HNF.out], ?_, Below.trans (hbel.out.alloc hsz _) hb5⟩
            show Own _ _ _ _ _ _
            rw [out_new]
            exact ho5
          case measure => simp [intOf]; omega
        · have HE := hid (HNJ.out.trans (step_add (by rw [← HCC.out]; exact hc0) (by rw [HQS.out]; intro S h; cases h)))
          go_wp2_with (first
            | (at_builtin; go_loud (refine wpList_app _ rfl _ _ 22 rfl .i64 w.heap.size 3 8 Tryz.underlying22 Tryz.infoI64 _ q.out [c] rfl (hown.out.below (by (repeat (first | exact Below.refl _ _ | exact below_drewN _ | refine Below.drew ?_ | refine Below.alloc ?_ (by simp) _ | refine Below.setCell ?_ (by simp) _ | refine below_drewN' ?_ _)))) _ rfl (one_sl (by first | simp | rfl)) (by have := HNF.out; unfold maxLen; simp; omega) (by have := HNF.out; simp; omega) (by simp; omega) ?_); intro v5 w5 ho5 hg5 hb5 hn5; clear hg5 hn5)
            | (go_at_call 46; refine (HC.out _ HTJ.out).mono ?_; rintro e w1 ⟨rfl, rfl⟩))
          go_roundw
          case rel =>
            refine ⟨j + 1, _, by omega, by go_num, HE.out.symm, by first | rfl | (show _ = Value.int .i64 (atG _); unfold atG; rw [HQS.out]), ?_, Below.trans (hbel.out.alloc hsz _) hb5⟩
            show Own _ _ _ _ _ _
            rw [out_add]
            exact ho5
          case measure => simp [intOf]; omega
      | some S =>
        have hat := out_some hqs
        have hol := out_len hqs
        have hos := out_at hqs
        have hset := hid (fun x => out_set hqs x)
        obtain ⟨p, hp⟩ : ∃ p, p = q.p.length := ⟨_, rfl⟩
        rw [← hp] at hat hol hos
        rw [hat]
        rw [← HNF.out] at hol
        have hpn : p < nf := by omega
        have HSI := hid (show inI S = true from HQI.out S (by unfold Cp.out; rw [hqs]; simp))
        rcases hown.out.2 with ⟨h0, h00⟩ | ⟨g, cap, cur, h0, _⟩
        · rw [← HNF.out] at h00
          omega
        injection h0 with e1 e2 e3
        subst e1
        clear e2 e3
        obtain ⟨rest, hrow, hg, -, hcap, hcm⟩ := RowI.of_own hown.out
        have HROW := hid hrow
        have c2 := hrow.at (i := p) (by rw [← HNF.out]; omega)
        have f2 := hrow.ice p
        rw [hos] at c2
        have HTW := hid (fun w h => refTwo10 B S c w h (i64_of10 HSI.out) (i64_of10 HCJ.out))
        have HJOIN := hid (fun (h1 : (twoS S c).2 = true) (h2 : offG classS q.m c = false) => HNJ.out.trans (step_join hqs h1 h2))
        have HNEW := hid (fun (hc : classS c = 0) (h2 : ((twoS S c).2 && !offG classS q.m c) = false) => HNJ.out.trans (step_new hc (fun S' h => by rw [hqs] at h; cases h; exact h2)))
        have HADD := hid (fun (hc : classS c ≠ 0) (h2 : ((twoS S c).2 && !offG classS q.m c) = false) => HNJ.out.trans (step_add hc (fun S' h => by rw [hqs] at h; cases h; exact h2)))
        have HSS := hid hqs
        have HPP := hid hp
        have HCAP := hid hcap
        have HCAP2 := hid hcm
        clear hrow hcap hcm hp hos hat
        generalize twoS S c = R at HTW HJOIN HNEW HADD
        obtain ⟨mm, ok⟩ := R
        dsimp only at HTW HJOIN HNEW HADD
        rw [← HCC.out] at HNEW HADD
        cases hml : q.m.getLast? with
        | none =>
          have hoff := hid (offG_nil (cl := classS) (c := c) hml)
          have hnp : nf = p + 1 := by rw [hol, m_nil hml]; rfl
          have ek : (nf : Int) - 1 = (p : Int) := by omega
          have HML := hid hml
          clear hml hol hqs hnp
          cases ok with
          | true =>
            have HE := hid (HJOIN.out rfl hoff.out)
            have HSO := hid (hset.out mm)
            clear HJOIN HNEW HADD
            go_wp2_with (first
              | (go_at_call 87; refine (HTW.out _ HTJ.out).mono ?_; rintro e w2 ⟨rfl, hb2⟩; have HB2 := hid hb2; have HR2 := hid (HROW.out.below hb2); have g2 := HR2.out.ice p; have e2 := (HB2.out.cell (p := ⟨g, p, none⟩) HROW.out.lt).trans c2; clear hb2)
              | (at_builtin; go_loud (refine wpList_app _ rfl _ _ 22 rfl .i64 w.heap.size 3 8 Tryz.underlying22 Tryz.infoI64 _ q.out [c] rfl ((hown.out.below HB2.out).below (by (repeat (first | exact Below.refl _ _ | exact below_drewN _ | refine Below.drew ?_ | refine Below.alloc ?_ (by simp) _ | refine Below.setCell ?_ (by simp) _ | refine below_drewN' ?_ _)))) _ rfl (one_sl (by first | simp | rfl)) (by have := HNF.out; unfold maxLen; simp; omega) (by have := HNF.out; simp; omega) (by have := HB2.out.size; simp; omega) ?_); intro v5 w5 ho5 hg5 hb5 hn5; clear hg5 hn5)
              | (go_at_call 46; with_reducible refine (HC.out _ HTJ.out).mono ?_; rintro e w1 ⟨rfl, rfl⟩))
            go_roundw
            case rel =>
              refine ⟨j + 1, _, by omega, by go_num, HE.out.symm, by show _ = Value.int .i64 (atG _); rw [out_some (S := mm) rfl, ← HPP.out], ?_, ?_⟩
              · show Own _ _ _ _ _ _
                rw [← HSO.out, ← HPP.out]
                have := (HR2.out.set (i := p) (by rw [← HNF.out]; omega) mm).own (base := w.heap.size) (cap := cl) hg (by rw [List.length_set, ← HNF.out]; exact HCAP.out) HCAP2.out
                rw [List.length_set, ← HNF.out] at this
                exact this
              · show Below _ _ _
                exact (hbel.out.trans (HB2.out.mono hsz)).setCell hg _
            case measure => simp [intOf]; omega
          | false =>
            by_cases hc0 : cc = 0
            · have HE := hid (HNEW.out hc0 (rfl))
              clear HJOIN HNEW HADD
              go_wp2_with (first
                | (go_at_call 87; refine (HTW.out _ HTJ.out).mono ?_; rintro e w2 ⟨rfl, hb2⟩; have HB2 := hid hb2; have HR2 := hid (HROW.out.below hb2); have g2 := HR2.out.ice p; have e2 := (HB2.out.cell (p := ⟨g, p, none⟩) HROW.out.lt).trans c2; clear hb2)
                | (at_builtin; go_loud (refine wpList_app _ rfl _ _ 22 rfl .i64 w.heap.size 3 8 Tryz.underlying22 Tryz.infoI64 _ q.out [c] rfl ((hown.out.below HB2.out).below (by (repeat (first | exact Below.refl _ _ | exact below_drewN _ | refine Below.drew ?_ | refine Below.alloc ?_ (by simp) _ | refine Below.setCell ?_ (by simp) _ | refine below_drewN' ?_ _)))) _ rfl (one_sl (by first | simp | rfl)) (by have := HNF.out; unfold maxLen; simp; omega) (by have := HNF.out; simp; omega) (by have := HB2.out.size; simp; omega) ?_); intro v5 w5 ho5 hg5 hb5 hn5; clear hg5 hn5)
                | (go_at_call 46; with_reducible refine (HC.out _ HTJ.out).mono ?_; rintro e w1 ⟨rfl, rfl⟩))
              go_roundw
              case rel =>
                refine ⟨j + 1, _, by omega, by go_num, HE.out.symm, by rw [at_new, ← HNF.out], ?_, Below.trans ((hbel.out.trans (HB2.out.mono hsz)).alloc (by have := HB2.out.size; omega) _) hb5⟩
                show Own _ _ _ _ _ _
                rw [out_new]
                exact ho5
              case measure => simp [intOf]; omega
            · have HE := hid (HADD.out hc0 (rfl))
              have hcb : (cc == 0) = false := beq_eq_false_iff_ne.2 hc0
              clear HJOIN HNEW HADD
              go_wp2_with (first
                | (go_at_call 87; refine (HTW.out _ HTJ.out).mono ?_; rintro e w2 ⟨rfl, hb2⟩; have HB2 := hid hb2; have HR2 := hid (HROW.out.below hb2); have g2 := HR2.out.ice p; have e2 := (HB2.out.cell (p := ⟨g, p, none⟩) HROW.out.lt).trans c2; clear hb2)
                | (at_builtin; go_loud (refine wpList_app _ rfl _ _ 22 rfl .i64 w.heap.size 3 8 Tryz.underlying22 Tryz.infoI64 _ q.out [c] rfl ((hown.out.below HB2.out).below (by (repeat (first | exact Below.refl _ _ | exact below_drewN _ | refine Below.drew ?_ | refine Below.alloc ?_ (by simp) _ | refine Below.setCell ?_ (by simp) _ | refine below_drewN' ?_ _)))) _ rfl (one_sl (by first | simp | rfl)) (by have := HNF.out; unfold maxLen; simp; omega) (by have := HNF.out; simp; omega) (by have := HB2.out.size; simp; omega) ?_); intro v5 w5 ho5 hg5 hb5 hn5; clear hg5 hn5)
                | (go_at_call 46; with_reducible refine (HC.out _ HTJ.out).mono ?_; rintro e w1 ⟨rfl, rfl⟩))
              go_roundw
              case rel =>
                refine ⟨j + 1, _, by omega, by go_num, HE.out.symm, by rw [show atG ⟨q.p, q.s, q.m ++ [c]⟩ = ((q.p.length : Nat) : Int) from out_some (q := ⟨q.p, q.s, q.m ++ [c]⟩) (S := S) HSS.out, ← HPP.out], ?_, Below.trans ((hbel.out.trans (HB2.out.mono hsz)).alloc (by have := HB2.out.size; omega) _) hb5⟩
                show Own _ _ _ _ _ _
                rw [out_add]
                exact ho5
              case measure => simp [intOf]; omega
        | some y =>
          have hoff := hid (offG_some (cl := classS) (c := c) hml)
          have hyl := out_last hqs hml
          obtain ⟨k, hk⟩ : ∃ k, k = q.p.length + q.m.length := ⟨_, rfl⟩
          have hkl := m_len hml
          have hkp : p < k := by rw [hk, HPP.out]; omega
          have hkn : nf = k + 1 := by rw [hk, hol, HPP.out]; omega
          rw [← hk] at hyl
          have c3 := HROW.out.at (i := k) (by rw [← HNF.out]; omega)
          rw [hyl] at c3
          have HY := hid (fun w h => refTClass B y w h)
          rw [← HCC.out] at hoff
          generalize classS y = cy at HY hoff
          have ek : (nf : Int) - 1 = (k : Int) := by omega
          have hkf : k < nf := by omega
          clear hml hyl hkl hk hkn hqs hol
          by_cases hy0 : cy = 0
          · have hof := hid (show offG classS q.m c = true by rw [hoff.out, hy0]; rfl)
            rw [hof.out] at HJOIN HNEW HADD
            clear hoff
            cases ok with
            | true =>
              by_cases hc0 : cc = 0
              · have HE := hid (HNEW.out hc0 (rfl))
                clear HJOIN HNEW HADD
                go_wp2_with (first
                  | (go_at_call 87; refine (HTW.out _ HTJ.out).mono ?_; rintro e w2 ⟨rfl, hb2⟩; have HB2 := hid hb2; have HR2 := hid (HROW.out.below hb2); have g2 := HR2.out.ice p; have e2 := (HB2.out.cell (p := ⟨g, p, none⟩) HROW.out.lt).trans c2; clear hb2)
                  | (at_builtin; go_loud (refine wpList_app _ rfl _ _ 22 rfl .i64 w.heap.size 3 8 Tryz.underlying22 Tryz.infoI64 _ q.out [c] rfl ((hown.out.below HB2.out).below (by (repeat (first | exact Below.refl _ _ | exact below_drewN _ | refine Below.drew ?_ | refine Below.alloc ?_ (by simp) _ | refine Below.setCell ?_ (by simp) _ | refine below_drewN' ?_ _)))) _ rfl (one_sl (by first | simp | rfl)) (by have := HNF.out; unfold maxLen; simp; omega) (by have := HNF.out; simp; omega) (by have := HB2.out.size; simp; omega) ?_); intro v5 w5 ho5 hg5 hb5 hn5; clear hg5 hn5)
                  | (go_at_call 46; with_reducible refine (HC.out _ HTJ.out).mono ?_; rintro e w1 ⟨rfl, rfl⟩)
                  | (go_at_call 46; with_reducible refine (HY.out _ HTJ.out).mono ?_; rintro e w1 ⟨rfl, rfl⟩))
                go_roundw
                case rel =>
                  refine ⟨j + 1, _, by omega, by go_num, HE.out.symm, by rw [at_new, ← HNF.out], ?_, Below.trans ((hbel.out.trans (HB2.out.mono hsz)).alloc (by have := HB2.out.size; omega) _) hb5⟩
                  show Own _ _ _ _ _ _
                  rw [out_new]
                  exact ho5
                case measure => simp [intOf]; omega
              · have HE := hid (HADD.out hc0 (rfl))
                have hcb : (cc == 0) = false := beq_eq_false_iff_ne.2 hc0
                clear HJOIN HNEW HADD
                go_wp2_with (first
                  | (go_at_call 87; refine (HTW.out _ HTJ.out).mono ?_; rintro e w2 ⟨rfl, hb2⟩; have HB2 := hid hb2; have HR2 := hid (HROW.out.below hb2); have g2 := HR2.out.ice p; have e2 := (HB2.out.cell (p := ⟨g, p, none⟩) HROW.out.lt).trans c2; clear hb2)
                  | (at_builtin; go_loud (refine wpList_app _ rfl _ _ 22 rfl .i64 w.heap.size 3 8 Tryz.underlying22 Tryz.infoI64 _ q.out [c] rfl ((hown.out.below HB2.out).below (by (repeat (first | exact Below.refl _ _ | exact below_drewN _ | refine Below.drew ?_ | refine Below.alloc ?_ (by simp) _ | refine Below.setCell ?_ (by simp) _ | refine below_drewN' ?_ _)))) _ rfl (one_sl (by first | simp | rfl)) (by have := HNF.out; unfold maxLen; simp; omega) (by have := HNF.out; simp; omega) (by have := HB2.out.size; simp; omega) ?_); intro v5 w5 ho5 hg5 hb5 hn5; clear hg5 hn5)
                  | (go_at_call 46; with_reducible refine (HC.out _ HTJ.out).mono ?_; rintro e w1 ⟨rfl, rfl⟩)
                  | (go_at_call 46; with_reducible refine (HY.out _ HTJ.out).mono ?_; rintro e w1 ⟨rfl, rfl⟩))
                go_roundw
                case rel =>
                  refine ⟨j + 1, _, by omega, by go_num, HE.out.symm, by rw [show atG ⟨q.p, q.s, q.m ++ [c]⟩ = ((q.p.length : Nat) : Int) from out_some (q := ⟨q.p, q.s, q.m ++ [c]⟩) (S := S) HSS.out, ← HPP.out], ?_, Below.trans ((hbel.out.trans (HB2.out.mono hsz)).alloc (by have := HB2.out.size; omega) _) hb5⟩
                  show Own _ _ _ _ _ _
                  rw [out_add]
                  exact ho5
                case measure => simp [intOf]; omega
            | false =>
              by_cases hc0 : cc = 0
              · have HE := hid (HNEW.out hc0 (rfl))
                clear HJOIN HNEW HADD
                go_wp2_with (first
                  | (go_at_call 87; refine (HTW.out _ HTJ.out).mono ?_; rintro e w2 ⟨rfl, hb2⟩; have HB2 := hid hb2; have HR2 := hid (HROW.out.below hb2); have g2 := HR2.out.ice p; have e2 := (HB2.out.cell (p := ⟨g, p, none⟩) HROW.out.lt).trans c2; clear hb2)
                  | (at_builtin; go_loud (refine wpList_app _ rfl _ _ 22 rfl .i64 w.heap.size 3 8 Tryz.underlying22 Tryz.infoI64 _ q.out [c] rfl ((hown.out.below HB2.out).below (by (repeat (first | exact Below.refl _ _ | exact below_drewN _ | refine Below.drew ?_ | refine Below.alloc ?_ (by simp) _ | refine Below.setCell ?_ (by simp) _ | refine below_drewN' ?_ _)))) _ rfl (one_sl (by first | simp | rfl)) (by have := HNF.out; unfold maxLen; simp; omega) (by have := HNF.out; simp; omega) (by have := HB2.out.size; simp; omega) ?_); intro v5 w5 ho5 hg5 hb5 hn5; clear hg5 hn5)
                  | (go_at_call 46; with_reducible refine (HC.out _ HTJ.out).mono ?_; rintro e w1 ⟨rfl, rfl⟩)
                  | (go_at_call 46; with_reducible refine (HY.out _ HTJ.out).mono ?_; rintro e w1 ⟨rfl, rfl⟩))
                go_roundw
                case rel =>
                  refine ⟨j + 1, _, by omega, by go_num, HE.out.symm, by rw [at_new, ← HNF.out], ?_, Below.trans ((hbel.out.trans (HB2.out.mono hsz)).alloc (by have := HB2.out.size; omega) _) hb5⟩
                  show Own _ _ _ _ _ _
                  rw [out_new]
                  exact ho5
                case measure => simp [intOf]; omega
              · have HE := hid (HADD.out hc0 (rfl))
                have hcb : (cc == 0) = false := beq_eq_false_iff_ne.2 hc0
                clear HJOIN HNEW HADD
                go_wp2_with (first
                  | (go_at_call 87; refine (HTW.out _ HTJ.out).mono ?_; rintro e w2 ⟨rfl, hb2⟩; have HB2 := hid hb2; have HR2 := hid (HROW.out.below hb2); have g2 := HR2.out.ice p; have e2 := (HB2.out.cell (p := ⟨g, p, none⟩) HROW.out.lt).trans c2; clear hb2)
                  | (at_builtin; go_loud (refine wpList_app _ rfl _ _ 22 rfl .i64 w.heap.size 3 8 Tryz.underlying22 Tryz.infoI64 _ q.out [c] rfl ((hown.out.below HB2.out).below (by (repeat (first | exact Below.refl _ _ | exact below_drewN _ | refine Below.drew ?_ | refine Below.alloc ?_ (by simp) _ | refine Below.setCell ?_ (by simp) _ | refine below_drewN' ?_ _)))) _ rfl (one_sl (by first | simp | rfl)) (by have := HNF.out; unfold maxLen; simp; omega) (by have := HNF.out; simp; omega) (by have := HB2.out.size; simp; omega) ?_); intro v5 w5 ho5 hg5 hb5 hn5; clear hg5 hn5)
                  | (go_at_call 46; with_reducible refine (HC.out _ HTJ.out).mono ?_; rintro e w1 ⟨rfl, rfl⟩)
                  | (go_at_call 46; with_reducible refine (HY.out _ HTJ.out).mono ?_; rintro e w1 ⟨rfl, rfl⟩))
                go_roundw
                case rel =>
                  refine ⟨j + 1, _, by omega, by go_num, HE.out.symm, by rw [show atG ⟨q.p, q.s, q.m ++ [c]⟩ = ((q.p.length : Nat) : Int) from out_some (q := ⟨q.p, q.s, q.m ++ [c]⟩) (S := S) HSS.out, ← HPP.out], ?_, Below.trans ((hbel.out.trans (HB2.out.mono hsz)).alloc (by have := HB2.out.size; omega) _) hb5⟩
                  show Own _ _ _ _ _ _
                  rw [out_add]
                  exact ho5
                case measure => simp [intOf]; omega
          · have hyb : (cy == 0) = false := beq_eq_false_iff_ne.2 hy0
            by_cases hle : cc ≤ cy
            · have hof := hid (show offG classS q.m c = true by rw [hoff.out, hyb]; simpa using hle)
              rw [hof.out] at HJOIN HNEW HADD
              clear hoff
              cases ok with
              | true =>
                by_cases hc0 : cc = 0
                · have HE := hid (HNEW.out hc0 (rfl))
                  have hq0 := hle
                  rw [hc0] at hq0
                  clear HJOIN HNEW HADD
                  go_wp2_with (first
                    | (go_at_call 87; refine (HTW.out _ HTJ.out).mono ?_; rintro e w2 ⟨rfl, hb2⟩; have HB2 := hid hb2; have HR2 := hid (HROW.out.below hb2); have g2 := HR2.out.ice p; have e2 := (HB2.out.cell (p := ⟨g, p, none⟩) HROW.out.lt).trans c2; clear hb2)
                    | (at_builtin; go_loud (refine wpList_app _ rfl _ _ 22 rfl .i64 w.heap.size 3 8 Tryz.underlying22 Tryz.infoI64 _ q.out [c] rfl ((hown.out.below HB2.out).below (by (repeat (first | exact Below.refl _ _ | exact below_drewN _ | refine Below.drew ?_ | refine Below.alloc ?_ (by simp) _ | refine Below.setCell ?_ (by simp) _ | refine below_drewN' ?_ _)))) _ rfl (one_sl (by first | simp | rfl)) (by have := HNF.out; unfold maxLen; simp; omega) (by have := HNF.out; simp; omega) (by have := HB2.out.size; simp; omega) ?_); intro v5 w5 ho5 hg5 hb5 hn5; clear hg5 hn5)
                    | (go_at_call 46; with_reducible refine (HC.out _ HTJ.out).mono ?_; rintro e w1 ⟨rfl, rfl⟩)
                    | (go_at_call 46; with_reducible refine (HY.out _ HTJ.out).mono ?_; rintro e w1 ⟨rfl, rfl⟩))
                  go_roundw
                  case rel =>
                    refine ⟨j + 1, _, by omega, by go_num, HE.out.symm, by rw [at_new, ← HNF.out], ?_, Below.trans ((hbel.out.trans (HB2.out.mono hsz)).alloc (by have := HB2.out.size; omega) _) hb5⟩
                    show Own _ _ _ _ _ _
                    rw [out_new]
                    exact ho5
                  case measure => simp [intOf]; omega
                · have HE := hid (HADD.out hc0 (rfl))
                  have hcb : (cc == 0) = false := beq_eq_false_iff_ne.2 hc0
                  clear HJOIN HNEW HADD
                  go_wp2_with (first
                    | (go_at_call 87; refine (HTW.out _ HTJ.out).mono ?_; rintro e w2 ⟨rfl, hb2⟩; have HB2 := hid hb2; have HR2 := hid (HROW.out.below hb2); have g2 := HR2.out.ice p; have e2 := (HB2.out.cell (p := ⟨g, p, none⟩) HROW.out.lt).trans c2; clear hb2)
                    | (at_builtin; go_loud (refine wpList_app _ rfl _ _ 22 rfl .i64 w.heap.size 3 8 Tryz.underlying22 Tryz.infoI64 _ q.out [c] rfl ((hown.out.below HB2.out).below (by (repeat (first | exact Below.refl _ _ | exact below_drewN _ | refine Below.drew ?_ | refine Below.alloc ?_ (by simp) _ | refine Below.setCell ?_ (by simp) _ | refine below_drewN' ?_ _)))) _ rfl (one_sl (by first | simp | rfl)) (by have := HNF.out; unfold maxLen; simp; omega) (by have := HNF.out; simp; omega) (by have := HB2.out.size; simp; omega) ?_); intro v5 w5 ho5 hg5 hb5 hn5; clear hg5 hn5)
                    | (go_at_call 46; with_reducible refine (HC.out _ HTJ.out).mono ?_; rintro e w1 ⟨rfl, rfl⟩)
                    | (go_at_call 46; with_reducible refine (HY.out _ HTJ.out).mono ?_; rintro e w1 ⟨rfl, rfl⟩))
                  go_roundw
                  case rel =>
                    refine ⟨j + 1, _, by omega, by go_num, HE.out.symm, by rw [show atG ⟨q.p, q.s, q.m ++ [c]⟩ = ((q.p.length : Nat) : Int) from out_some (q := ⟨q.p, q.s, q.m ++ [c]⟩) (S := S) HSS.out, ← HPP.out], ?_, Below.trans ((hbel.out.trans (HB2.out.mono hsz)).alloc (by have := HB2.out.size; omega) _) hb5⟩
                    show Own _ _ _ _ _ _
                    rw [out_add]
                    exact ho5
                  case measure => simp [intOf]; omega
              | false =>
                by_cases hc0 : cc = 0
                · have HE := hid (HNEW.out hc0 (rfl))
                  have hq0 := hle
                  rw [hc0] at hq0
                  clear HJOIN HNEW HADD
                  go_wp2_with (first
                    | (go_at_call 87; refine (HTW.out _ HTJ.out).mono ?_; rintro e w2 ⟨rfl, hb2⟩; have HB2 := hid hb2; have HR2 := hid (HROW.out.below hb2); have g2 := HR2.out.ice p; have e2 := (HB2.out.cell (p := ⟨g, p, none⟩) HROW.out.lt).trans c2; clear hb2)
                    | (at_builtin; go_loud (refine wpList_app _ rfl _ _ 22 rfl .i64 w.heap.size 3 8 Tryz.underlying22 Tryz.infoI64 _ q.out [c] rfl ((hown.out.below HB2.out).below (by (repeat (first | exact Below.refl _ _ | exact below_drewN _ | refine Below.drew ?_ | refine Below.alloc ?_ (by simp) _ | refine Below.setCell ?_ (by simp) _ | refine below_drewN' ?_ _)))) _ rfl (one_sl (by first | simp | rfl)) (by have := HNF.out; unfold maxLen; simp; omega) (by have := HNF.out; simp; omega) (by have := HB2.out.size; simp; omega) ?_); intro v5 w5 ho5 hg5 hb5 hn5; clear hg5 hn5)
                    | (go_at_call 46; with_reducible refine (HC.out _ HTJ.out).mono ?_; rintro e w1 ⟨rfl, rfl⟩)
                    | (go_at_call 46; with_reducible refine (HY.out _ HTJ.out).mono ?_; rintro e w1 ⟨rfl, rfl⟩))
                  go_roundw
                  case rel =>
                    refine ⟨j + 1, _, by omega, by go_num, HE.out.symm, by rw [at_new, ← HNF.out], ?_, Below.trans ((hbel.out.trans (HB2.out.mono hsz)).alloc (by have := HB2.out.size; omega) _) hb5⟩
                    show Own _ _ _ _ _ _
                    rw [out_new]
                    exact ho5
                  case measure => simp [intOf]; omega
                · have HE := hid (HADD.out hc0 (rfl))
                  have hcb : (cc == 0) = false := beq_eq_false_iff_ne.2 hc0
                  clear HJOIN HNEW HADD
                  go_wp2_with (first
                    | (go_at_call 87; refine (HTW.out _ HTJ.out).mono ?_; rintro e w2 ⟨rfl, hb2⟩; have HB2 := hid hb2; have HR2 := hid (HROW.out.below hb2); have g2 := HR2.out.ice p; have e2 := (HB2.out.cell (p := ⟨g, p, none⟩) HROW.out.lt).trans c2; clear hb2)
                    | (at_builtin; go_loud (refine wpList_app _ rfl _ _ 22 rfl .i64 w.heap.size 3 8 Tryz.underlying22 Tryz.infoI64 _ q.out [c] rfl ((hown.out.below HB2.out).below (by (repeat (first | exact Below.refl _ _ | exact below_drewN _ | refine Below.drew ?_ | refine Below.alloc ?_ (by simp) _ | refine Below.setCell ?_ (by simp) _ | refine below_drewN' ?_ _)))) _ rfl (one_sl (by first | simp | rfl)) (by have := HNF.out; unfold maxLen; simp; omega) (by have := HNF.out; simp; omega) (by have := HB2.out.size; simp; omega) ?_); intro v5 w5 ho5 hg5 hb5 hn5; clear hg5 hn5)
                    | (go_at_call 46; with_reducible refine (HC.out _ HTJ.out).mono ?_; rintro e w1 ⟨rfl, rfl⟩)
                    | (go_at_call 46; with_reducible refine (HY.out _ HTJ.out).mono ?_; rintro e w1 ⟨rfl, rfl⟩))
                  go_roundw
                  case rel =>
                    refine ⟨j + 1, _, by omega, by go_num, HE.out.symm, by rw [show atG ⟨q.p, q.s, q.m ++ [c]⟩ = ((q.p.length : Nat) : Int) from out_some (q := ⟨q.p, q.s, q.m ++ [c]⟩) (S := S) HSS.out, ← HPP.out], ?_, Below.trans ((hbel.out.trans (HB2.out.mono hsz)).alloc (by have := HB2.out.size; omega) _) hb5⟩
                    show Own _ _ _ _ _ _
                    rw [out_add]
                    exact ho5
                  case measure => simp [intOf]; omega
            · have hof := hid (show offG classS q.m c = false by rw [hoff.out, hyb]; simp; omega)
              have hlb : decide (cc ≤ cy) = false := decide_eq_false hle
              rw [hof.out] at HJOIN HNEW HADD
              clear hoff
              cases ok with
              | true =>
                have HE := hid (HJOIN.out rfl rfl)
                have HSO := hid (hset.out mm)
                clear HJOIN HNEW HADD
                go_wp2_with (first
                  | (go_at_call 87; refine (HTW.out _ HTJ.out).mono ?_; rintro e w2 ⟨rfl, hb2⟩; have HB2 := hid hb2; have HR2 := hid (HROW.out.below hb2); have g2 := HR2.out.ice p; have e2 := (HB2.out.cell (p := ⟨g, p, none⟩) HROW.out.lt).trans c2; clear hb2)
                  | (at_builtin; go_loud (refine wpList_app _ rfl _ _ 22 rfl .i64 w.heap.size 3 8 Tryz.underlying22 Tryz.infoI64 _ q.out [c] rfl ((hown.out.below HB2.out).below (by (repeat (first | exact Below.refl _ _ | exact below_drewN _ | refine Below.drew ?_ | refine Below.alloc ?_ (by simp) _ | refine Below.setCell ?_ (by simp) _ | refine below_drewN' ?_ _)))) _ rfl (one_sl (by first | simp | rfl)) (by have := HNF.out; unfold maxLen; simp; omega) (by have := HNF.out; simp; omega) (by have := HB2.out.size; simp; omega) ?_); intro v5 w5 ho5 hg5 hb5 hn5; clear hg5 hn5)
                  | (go_at_call 46; with_reducible refine (HC.out _ HTJ.out).mono ?_; rintro e w1 ⟨rfl, rfl⟩)
                  | (go_at_call 46; with_reducible refine (HY.out _ HTJ.out).mono ?_; rintro e w1 ⟨rfl, rfl⟩))
                go_roundw
                case rel =>
                  refine ⟨j + 1, _, by omega, by go_num, HE.out.symm, by show _ = Value.int .i64 (atG _); rw [out_some (S := mm) rfl, ← HPP.out], ?_, ?_⟩
                  · show Own _ _ _ _ _ _
                    rw [← HSO.out, ← HPP.out]
                    have := (HR2.out.set (i := p) (by rw [← HNF.out]; omega) mm).own (base := w.heap.size) (cap := cl) hg (by rw [List.length_set, ← HNF.out]; exact HCAP.out) HCAP2.out
                    rw [List.length_set, ← HNF.out] at this
                    exact this
                  · show Below _ _ _
                    exact (hbel.out.trans (HB2.out.mono hsz)).setCell hg _
                case measure => simp [intOf]; omega
              | false =>
                by_cases hc0 : cc = 0
                · have HE := hid (HNEW.out hc0 (rfl))
                  have hq0 := hle
                  rw [hc0] at hq0
                  clear HJOIN HNEW HADD
                  go_wp2_with (first
                    | (go_at_call 87; refine (HTW.out _ HTJ.out).mono ?_; rintro e w2 ⟨rfl, hb2⟩; have HB2 := hid hb2; have HR2 := hid (HROW.out.below hb2); have g2 := HR2.out.ice p; have e2 := (HB2.out.cell (p := ⟨g, p, none⟩) HROW.out.lt).trans c2; clear hb2)
                    | (at_builtin; go_loud (refine wpList_app _ rfl _ _ 22 rfl .i64 w.heap.size 3 8 Tryz.underlying22 Tryz.infoI64 _ q.out [c] rfl ((hown.out.below HB2.out).below (by (repeat (first | exact Below.refl _ _ | exact below_drewN _ | refine Below.drew ?_ | refine Below.alloc ?_ (by simp) _ | refine Below.setCell ?_ (by simp) _ | refine below_drewN' ?_ _)))) _ rfl (one_sl (by first | simp | rfl)) (by have := HNF.out; unfold maxLen; simp; omega) (by have := HNF.out; simp; omega) (by have := HB2.out.size; simp; omega) ?_); intro v5 w5 ho5 hg5 hb5 hn5; clear hg5 hn5)
                    | (go_at_call 46; with_reducible refine (HC.out _ HTJ.out).mono ?_; rintro e w1 ⟨rfl, rfl⟩)
                    | (go_at_call 46; with_reducible refine (HY.out _ HTJ.out).mono ?_; rintro e w1 ⟨rfl, rfl⟩))
                  go_roundw
                  case rel =>
                    refine ⟨j + 1, _, by omega, by go_num, HE.out.symm, by rw [at_new, ← HNF.out], ?_, Below.trans ((hbel.out.trans (HB2.out.mono hsz)).alloc (by have := HB2.out.size; omega) _) hb5⟩
                    show Own _ _ _ _ _ _
                    rw [out_new]
                    exact ho5
                  case measure => simp [intOf]; omega
                · have HE := hid (HADD.out hc0 (rfl))
                  have hcb : (cc == 0) = false := beq_eq_false_iff_ne.2 hc0
                  clear HJOIN HNEW HADD
                  go_wp2_with (first
                    | (go_at_call 87; refine (HTW.out _ HTJ.out).mono ?_; rintro e w2 ⟨rfl, hb2⟩; have HB2 := hid hb2; have HR2 := hid (HROW.out.below hb2); have g2 := HR2.out.ice p; have e2 := (HB2.out.cell (p := ⟨g, p, none⟩) HROW.out.lt).trans c2; clear hb2)
                    | (at_builtin; go_loud (refine wpList_app _ rfl _ _ 22 rfl .i64 w.heap.size 3 8 Tryz.underlying22 Tryz.infoI64 _ q.out [c] rfl ((hown.out.below HB2.out).below (by (repeat (first | exact Below.refl _ _ | exact below_drewN _ | refine Below.drew ?_ | refine Below.alloc ?_ (by simp) _ | refine Below.setCell ?_ (by simp) _ | refine below_drewN' ?_ _)))) _ rfl (one_sl (by first | simp | rfl)) (by have := HNF.out; unfold maxLen; simp; omega) (by have := HNF.out; simp; omega) (by have := HB2.out.size; simp; omega) ?_); intro v5 w5 ho5 hg5 hb5 hn5; clear hg5 hn5)
                    | (go_at_call 46; with_reducible refine (HC.out _ HTJ.out).mono ?_; rintro e w1 ⟨rfl, rfl⟩)
                    | (go_at_call 46; with_reducible refine (HY.out _ HTJ.out).mono ?_; rintro e w1 ⟨rfl, rfl⟩))
                  go_roundw
                  case rel =>
                    refine ⟨j + 1, _, by omega, by go_num, HE.out.symm, by rw [show atG ⟨q.p, q.s, q.m ++ [c]⟩ = ((q.p.length : Nat) : Int) from out_some (q := ⟨q.p, q.s, q.m ++ [c]⟩) (S := S) HSS.out, ← HPP.out], ?_, Below.trans ((hbel.out.trans (HB2.out.mono hsz)).alloc (by have := HB2.out.size; omega) _) hb5⟩
                    show Own _ _ _ _ _ _
                    rw [out_add]
                    exact ho5
                  case measure => simp [intOf]; omega
    · obtain rfl : j = n := by omega
      have hfin := hid (show q.out = compG classS twoS s from by rw [hq.out, HN.out, List.take_length]; rfl)
      go_wp2_with (fail)
      go_ret
      exact ⟨_, rfl, by rw [← hfin.out]; exact hown.out, hbel.out⟩
end Go.Proofs.YtidjjaginindoaaGreat
