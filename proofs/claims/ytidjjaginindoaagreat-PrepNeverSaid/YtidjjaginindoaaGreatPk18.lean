/- Several texts in one: Ref6d, Ref16a, Eng21. -/
import Derived.Test.YtidjjaginindoaaGreatPk12
import Derived.Test.YtidjjaginindoaaGreatPk16
import Derived.Test.YtidjjaginindoaaGreatPk10
import Derived.BigQuiet
import Derived.Test.YtidjjaginindoaaGreatPk17
/-! Ref6d -/
namespace Go.Proofs.YtidjjaginindoaaGreat
open Go.RowKit

def refP (a b : Int) (r : Rg) : Bool := !(r.v == 0) && (!(r.t != a) && (!(r.v != b) && (!(classS a != 0) && (!(classS r.f != 0) && !exclL.any (· == r.f)))))
theorem idx_any (c : Int) : ∀ (l : List Int) (o : Int), 0 ≤ o → decide (0 ≤ idxL c l o) = l.any (· == c)
  | [], o, _ => by simp [idxL]
  | x :: l, o, h => by
    rw [idxL, List.any_cons]
    cases hx : (x == c) with
    | true => simp [h]
    | false => simpa using idx_any c l (o + 1) (by omega)
theorem fndS_filter {p q : Rg → Bool} : ∀ l : List Rg, fndS p (l.filter q) = fndS (fun r => q r && p r) l
  | [] => rfl
  | r :: l => by
    rw [List.filter_cons, fndS]
    cases hq : q r with
    | true =>
      simp only [if_true, Bool.true_and]
      rw [fndS, fndS_filter l]
    | false =>
      simp only [Bool.false_eq_true, if_false, Bool.false_and]
      exact fndS_filter l
theorem fndS_ext {p q : Rg → Bool} (h : ∀ r, p r = q r) : ∀ l : List Rg, fndS p l = fndS q l
  | [] => rfl
  | r :: l => by rw [fndS, fndS, h r, fndS_ext h l]
theorem pair_same (a b : Int) : pairS a b = ((fndS (refP a b) tabCanon).1.f, (fndS (refP a b) tabCanon).2) := by
  have e : fndS (fun r => r.t == a && r.v == b) tabPair = fndS (refP a b) tabCanon := by
    unfold tabPair
    rw [fndS_filter]
    refine fndS_ext (fun r => ?_) _
    unfold refP delS inL
    rw [idx_any _ _ _ (Int.le_refl 0), class_look, class_look]
    cases h1 : (r.t == a) with
    | false =>
      have : (r.t != a) = true := by simp only [bne, h1]; rfl
      rw [this]
      simp
    | true =>
      have h2 := eq_of_beq h1
      have : (r.t != a) = false := by simp only [bne, h1]; rfl
      rw [this, h2]
      cases (r.v == 0) <;> cases exclL.any (· == r.f) <;> cases hb : (r.v == b) <;> simp [bne, hb, Bool.and_comm]
  unfold pairS
  rw [e]
/-- whether one of the first so many is x -/
def outB (x : Int) (j : Nat) : Bool := (exclL.take j).any (· == x)
theorem outB_next {x : Int} {j : Nat} (h : j < 6) : outB x (j + 1) = (outB x j || (exclL.getD j 0 == x)) := by
  unfold outB
  rw [List.take_succ_eq_append_getElem (show j < exclL.length from h), List.any_append, List.any_cons, List.any_nil, Bool.or_false]
  congr 1
  rw [List.getD_eq_getElem?_getD, List.getElem?_eq_getElem (show j < exclL.length from h)]
  rfl

set_option maxHeartbeats 8000000 in
set_option maxRecDepth 8000 in
theorem refTPair (B : Nat) (a b : Int) (w : World) (h : TabsAt B w) : Calls Tryz.prog 107 #[.pointer (some ⟨B, 0, none⟩), .int .i64 a, .int .i64 b] w fun e w' => e = .returned (.tuple #[.int .i64 (pairS a b).1, .bool (pairS a b).2]) ∧ Below w.heap.size w w' := by
  rw [pair_same]
  have HT := hid h
  obtain ⟨v1, v2, v3, v4, v5, hx, h1, h2, h3, h4, h5⟩ := h
  have HX := hid hx
  clear h2 h3 h5 hx
  have ml := h1.len
  obtain ⟨l, hl⟩ : ∃ l, l = tabCanon := ⟨_, rfl⟩
  obtain ⟨R, hRR⟩ : ∃ R, R = fndS (refP a b) l := ⟨_, rfl⟩
  rw [← hl] at h1 ml ⊢
  rw [← hRR]
  clear hl
  obtain ⟨a1, cap1, rfl, q1, -, h1⟩ := h1
  obtain ⟨n, hn⟩ : ∃ n, n = l.length := ⟨_, rfl⟩
  have hH : ∀ k, k < n → (∀ i, i < k → refP a b (l.getD i noRg) = false) → refP a b (l.getD k noRg) = true → R = (l.getD k noRg, true) := fun k hk ha hh => by rw [hRR, fndS_hit (p := refP a b) (by omega) ha hh]
  have hN : (∀ i, i < n → refP a b (l.getD i noRg) = false) → R = (noRg, false) := fun ha => by rw [hRR, fndS_none (p := refP a b) (by rw [← hn]; exact ha)]
  obtain ⟨a4, cap4, hv4, q4, -, h4⟩ := h4
  rw [show exclL.length = 6 from rfl] at hv4
  subst hv4
  have HH := hid hH
  have HN := hid hN
  have H1 := hid h1
  have H4 := hid h4
  rw [← hn] at ml q1 H1 HX
  clear hH hN h1 hn hRR h4
  obtain ⟨ca, hca⟩ : ∃ ca, ca = classS a := ⟨_, rfl⟩
  have HCA := hid hca
  have x0 := HX.out.cell 0
  simp only [List.getElem?_cons_zero] at x0
  go_enter Tryz.func107, Tryz.ntmps107
  go_wp2_with (fail)
  go_loopw [8] (fun iv wr => ∃ k : Nat, k ≤ n ∧ iv = .int .i64 k ∧ Hid (Below w.heap.size w wr) ∧ Hid (∀ i, i < k → refP a b (l.getD i noRg) = false)) (fun iv _ => n - (intOf iv).toNat)
  case atStart => exact ⟨0, by omega, rfl, Below.refl _ _, fun i hi => absurd hi (by omega)⟩
  case round =>
    obtain ⟨k, hk, rfl, hbel, hall⟩ := hrel
    have x0 := (HX.out.below hbel.out HX.out.lt).cell 0
    simp only [List.getElem?_cons_zero] at x0
    by_cases hlt : k < n
    · rcases H1.out with hc | ⟨b1, o1, rfl, hb1, c1⟩
      · omega
      have hb1' := hb1 (by omega)
      obtain ⟨d1, d2, d3⟩ := c1 k hlt
      have d1 := (hbel.out.cell (p := ⟨b1, o1 + k * 3, none⟩) hb1').trans d1
      have d2 := (hbel.out.cell (p := ⟨b1, o1 + k * 3 + 1, none⟩) hb1').trans d2
      have d3 := (hbel.out.cell (p := ⟨b1, o1 + k * 3 + 2, none⟩) hb1').trans d3
      have hh := hid (HH.out k hlt hall.out)
      have HNX := hid (show refP a b (l.getD k noRg) = false → ∀ i, i < k + 1 → refP a b (l.getD i noRg) = false from fun he i hi => by
        rcases Nat.lt_or_ge i k with h | h
        · exact hall.out i h
        · obtain rfl : i = k := by omega
          exact he)
      clear c1
      generalize l.getD k noRg = r at d1 d2 d3 hh HNX
      obtain ⟨rf, rt, rv⟩ := r
      simp only at d1 d2 d3 hh HNX
      obtain ⟨cf, hcf⟩ : ∃ cf, cf = classS rf := ⟨_, rfl⟩
      have HCF := hid hcf
      obtain ⟨p1, hp1⟩ : ∃ p, p = (rv == 0) := ⟨_, rfl⟩
      obtain ⟨p2, hp2⟩ : ∃ p, p = (rt != a) := ⟨_, rfl⟩
      obtain ⟨p3, hp3⟩ : ∃ p, p = (rv != b) := ⟨_, rfl⟩
      obtain ⟨p4, hp4⟩ : ∃ p, p = (ca != 0) := ⟨_, rfl⟩
      obtain ⟨p5, hp5⟩ : ∃ p, p = (cf != 0) := ⟨_, rfl⟩
      have hrp : refP a b ⟨rf, rt, rv⟩ = (!p1 && (!p2 && (!p3 && (!p4 && (!p5 && !exclL.any (· == rf)))))) := by rw [hp1, hp2, hp3, hp4, hp5, hca, hcf]; rfl
      rw [hrp] at hh HNX
      clear hrp hcf
      replace hp1 := hp1.symm
      replace hp2 := hp2.symm
      replace hp3 := hp3.symm
      replace hp4 := hp4.symm
      replace hp5 := hp5.symm
      have HB2 := hid (hbel.out.alloc hbel.out.size (.cells #[.int .i64 rf, .int .i64 rt, .int .i64 rv] 66))
      have HTA := hid (HT.out.below HB2.out)
      clear hca
      cases p1 with
      | true =>
        have hr := hid (HNX.out rfl)
        clear HNX hh
        go_wp2_with (fail)
        go_roundw
        case rel => exact ⟨k + 1, by omega, by go_num, HB2.out, hr.out⟩
        case measure => simp [intOf]; omega
      | false =>
        cases p2 with
        | true =>
          have hr := hid (HNX.out rfl)
          clear HNX hh
          go_wp2_with (fail)
          go_roundw
          case rel => exact ⟨k + 1, by omega, by go_num, HB2.out, hr.out⟩
          case measure => simp [intOf]; omega
        | false =>
          cases p3 with
          | true =>
            have hr := hid (HNX.out rfl)
            clear HNX hh
            go_wp2_with (fail)
            go_roundw
            case rel => exact ⟨k + 1, by omega, by go_num, HB2.out, hr.out⟩
            case measure => simp [intOf]; omega
          | false =>
            cases p4 with
            | true =>
              have hr := hid (HNX.out rfl)
              clear HNX hh
              go_wp2_with (first
                | (go_at_call 46; with_reducible refine (refTClass B a _ HTA.out).mono ?_; rw [← HCA.out]; rintro e w1 ⟨rfl, rfl⟩))
              go_roundw
              case rel => exact ⟨k + 1, by omega, by go_num, HB2.out, hr.out⟩
              case measure => simp [intOf]; omega
            | false =>
              cases p5 with
              | true =>
                have hr := hid (HNX.out rfl)
                clear HNX hh
                go_wp2_with (first
                  | (go_at_call 46; with_reducible refine (refTClass B a _ HTA.out).mono ?_; rw [← HCA.out]; rintro e w1 ⟨rfl, rfl⟩)
                  | (go_at_call 46; with_reducible refine (refTClass B rf _ HTA.out).mono ?_; rw [← HCF.out]; rintro e w1 ⟨rfl, rfl⟩))
                go_roundw
                case rel => exact ⟨k + 1, by omega, by go_num, HB2.out, hr.out⟩
                case measure => simp [intOf]; omega
              | false =>
                have y0 := (HX.out.below HB2.out HX.out.lt).cell 3
                simp only [List.getElem?_cons_zero, List.getElem?_cons_succ] at y0
                have z0 := (Box.made wr 66 [.int .i64 rf, .int .i64 rt, .int .i64 rv]).cell 0
                simp only [List.getElem?_cons_zero] at z0
                go_wp2_with (first
                  | (go_at_call 46; with_reducible refine (refTClass B a _ HTA.out).mono ?_; rw [← HCA.out]; rintro e w1 ⟨rfl, rfl⟩)
                  | (go_at_call 46; with_reducible refine (refTClass B rf _ HTA.out).mono ?_; rw [← HCF.out]; rintro e w1 ⟨rfl, rfl⟩))
                generalize wr.alloc (.cells #[.int .i64 rf, .int .i64 rt, .int .i64 rv] 66) = W at HB2 HTA y0 z0 ⊢
                generalize wr.heap.size = X at z0 ⊢
                go_loopw [10, 11] (fun bv iv wx => ∃ j q : Nat, j ≤ 6 ∧ iv = .int .i64 j ∧ wx = W.drewN q ∧ Hid (bv = .bool (outB rf j))) (fun _ iv _ => 6 - (intOf iv).toNat)
                case atStart => exact ⟨0, 0, by omega, rfl, rfl, rfl⟩
                case round =>
                  obtain ⟨j, q, hj, rfl, rfl, hbv⟩ := hrel
                  by_cases hj6 : j < 6
                  · rcases H4.out with hc4 | ⟨b4, o4, rfl, hb4, c4⟩
                    · have : exclL.length = 6 := rfl
                      omega
                    have e4 := (HB2.out.cell (p := ⟨b4, o4 + j, none⟩) (hb4 (by decide))).trans (c4 j hj6)
                    have hnx := hid (outB_next (x := rf) hj6)
                    clear c4
                    generalize exclL.getD j 0 = y at e4 hnx
                    obtain ⟨ob, hob⟩ : ∃ ob, ob = outB rf j := ⟨_, rfl⟩
                    rw [← hob] at hbv hnx
                    have hv := hbv.out
                    subst hv
                    clear hbv hob
                    cases ob with
                    | true =>
                      have hn2 := hid (show Value.bool true = .bool (outB rf (j + 1)) by rw [hnx.out]; rfl)
                      go_wp2_with (fail)
                      go_quiet (fail)
                      go_wp2_with (fail)
                      go_roundw
                      case rel => exact ⟨j + 1, q + nq, by omega, by go_num, by first | rfl | exact World.drewN_drewN _ _ _, hn2.out⟩
                      case measure => simp [intOf]; omega
                    | false =>
                      obtain ⟨e, he⟩ : ∃ e, e = (y == rf) := ⟨_, rfl⟩
                      have hn2 := hid (show Value.bool e = .bool (outB rf (j + 1)) by rw [hnx.out, he]; rfl)
                      replace he := he.symm
                      go_wp2_with (fail)
                      go_quiet (fail)
                      go_wp2_with (fail)
                      go_roundw
                      case rel => exact ⟨j + 1, q + nq, by omega, by go_num, by first | rfl | exact World.drewN_drewN _ _ _, hn2.out⟩
                      case measure => simp [intOf]; omega
                  · obtain rfl : j = 6 := by omega
                    have ho : outB rf 6 = exclL.any (· == rf) := rfl
                    have hv := hbv.out
                    rw [ho] at hv
                    rw [hv]
                    obtain ⟨ob, hob⟩ : ∃ ob, ob = exclL.any (· == rf) := ⟨_, rfl⟩
                    rw [← hob] at hh HNX ⊢
                    have HB5 := hid (below_drewN' HB2.out q)
                    clear hv ho hob hbv
                    cases ob with
                    | true =>
                      have hr := hid (HNX.out rfl)
                      clear HNX hh
                      go_wp2_with (fail)
                      go_roundw
                      case rel => exact ⟨k + 1, by omega, by go_num, HB5.out, hr.out⟩
                      case measure => simp [intOf]; omega
                    | false =>
                      have hr := hid (hh.out rfl)
                      clear HNX hh
                      go_wp2_with (fail)
                      go_ret2
                      exact ⟨by rw [hr.out]; rfl, HB5.out⟩
    · obtain rfl : k = n := by omega
      have hr := hid (HN.out hall.out)
      go_wp2_with (fail)
      go_ret2
      exact ⟨by rw [hr.out]; rfl, hbel.out⟩
end Go.Proofs.YtidjjaginindoaaGreat

/-! Ref16a -/
namespace Go.Proofs.YtidjjaginindoaaGreat
open Go.RowKit

/-- the Sets behind a pointer -/
def SetsAt (S : Nat) (w : World) : Prop := ∃ v1 v2 v3 B, Box 83 [v1, v2, v3, .pointer (some ⟨B, 0, none⟩)] S w ∧ Sg w v1 tabCodes ∧ Sg w v2 tabAccents ∧ Sl .i64 w v3 tabSets ∧ TabsAt B w
theorem SetsAt.below {S : Nat} {w w' : World} (h : SetsAt S w) (hb : Below w.heap.size w w') : SetsAt S w' := by
  obtain ⟨v1, v2, v3, B, hx, h1, h2, h3, h4⟩ := h
  exact ⟨v1, v2, v3, B, hx.below hb hx.lt, h1.below hb, h2.below hb, h3.below hb, h4.below hb⟩

set_option maxHeartbeats 2000000 in
theorem refAllSets (w : World) : Calls Tryz.prog 28 #[] w fun e w' => ∃ S, e = .returned (.pointer (some ⟨S, 0, none⟩)) ∧ SetsAt S w' ∧ Below w.heap.size w w' := by
  go_enter Tryz.func28, Tryz.ntmps28
  go_wp2_with (first
    | (go_at_call 60; refine (apiCodes _).mono ?_; rintro e w1 ⟨v1, rfl, ho1, hb1⟩; have HO1 := hid ho1.sg; have HB1 := hid hb1; obtain ⟨a1, c1, hv1⟩ := ho1.form; obtain ⟨n1, hn1⟩ : ∃ n, n = tabCodes.length := ⟨_, rfl⟩; rw [← hn1] at hv1; subst hv1; clear ho1 hb1 hn1)
    | (go_at_call 61; refine (apiAccents _).mono ?_; rintro e w2 ⟨v2, rfl, ho2, hb2⟩; have HO2 := hid ho2.sg; have HB2 := hid hb2; obtain ⟨a2, c2, hv2⟩ := ho2.form; obtain ⟨n2, hn2⟩ : ∃ n, n = tabAccents.length := ⟨_, rfl⟩; rw [← hn2] at hv2; subst hv2; clear ho2 hb2 hn2)
    | (go_at_call 62; refine (apiSets _).mono ?_; rintro e w3 ⟨v3, rfl, ho3, hb3⟩; have HO3 := hid ho3.sl; have HB3 := hid hb3; obtain ⟨a3, c3, hv3⟩ := ho3.sl.form; obtain ⟨n3, hn3⟩ : ∃ n, n = tabSets.length := ⟨_, rfl⟩; rw [← hn3] at hv3; subst hv3; clear ho3 hb3 hn3)
    | (go_at_call 27; refine (refAll6 _).mono ?_; rintro e w4 ⟨B4, rfl, ht4, hb4⟩; have HT4 := hid ht4; have HB4 := hid hb4; clear ht4 hb4))
  go_ret
  have k6 : Below w4.heap.size w4 (w4.alloc (.cells #[.slice a1 n1 c1, .slice a2 n2 c2, .slice a3 n3 c3, .pointer (some ⟨B4, 0, none⟩)] 83)) := by (repeat (first | exact Below.refl _ _ | exact below_drewN _ | refine Below.drew ?_ | refine Below.alloc ?_ (by simp) _ | refine Below.setCell ?_ (by simp) _ | refine below_drewN' ?_ _))
  have k2 := HB1.out.trans (HB2.out.mono HB1.out.size)
  have k3 := k2.trans (HB3.out.mono k2.size)
  have k4 := k3.trans (HB4.out.mono k3.size)
  exact ⟨w4.heap.size, rfl, ⟨_, _, _, B4, Box.made w4 _ [_, _, _, _], (((HO1.out.below HB2.out).below HB3.out).below HB4.out).below k6, ((HO2.out.below HB3.out).below HB4.out).below k6, (HO3.out.below HB4.out).below k6, HT4.out.below k6⟩, k4.trans (k6.mono k4.size)⟩

end Go.Proofs.YtidjjaginindoaaGreat

/-! Eng21 -/
namespace Go.Proofs.YtidjjaginindoaaGreat
open Go.RowKit
set_option linter.unusedVariables false

/-- the tables behind a pointer -/
def EngAt (G : Nat) (w : World) : Prop := ∃ B S v, Box 51 [.pointer (some ⟨B, 0, none⟩), .pointer (some ⟨S, 0, none⟩), v] G w ∧ TabsAt B w ∧ SetsAt S w ∧ Ats w v tabAttrs
theorem EngAt.below {G : Nat} {w w' : World} (h : EngAt G w) (hb : Below w.heap.size w w') : EngAt G w' := by
  obtain ⟨B, S, v, hx, h1, h2, h3⟩ := h
  exact ⟨B, S, v, hx.below hb hx.lt, h1.below hb, h2.below hb, h3.below hb⟩
set_option maxHeartbeats 2000000 in
theorem refNew21 (w : World) : Calls Tryz.prog 8 #[] w fun e w' => ∃ G, e = .returned (.pointer (some ⟨G, 0, none⟩)) ∧ EngAt G w' ∧ Below w.heap.size w w' := by
  go_enter Tryz.func8, Tryz.ntmps8
  go_wp2_with (first
    | (go_at_call 27; refine (refAll6 _).mono ?_; rintro e w1 ⟨B, rfl, h1, hb1⟩; have HT1 := hid h1; have HB1 := hid hb1; clear h1 hb1)
    | (go_at_call 28; refine (refAllSets _).mono ?_; rintro e w2 ⟨S, rfl, h2, hb2⟩; have HS2 := hid h2; have HT2 := hid (HT1.out.below hb2); have HB2 := hid (HB1.out.trans (hb2.mono HB1.out.size)); clear h2 hb2)
    | (go_at_call 29; refine (apiAttrs _).mono ?_; rintro e w3 ⟨v3, rfl, h3, hb3⟩; have HA3 := hid h3; have HS3 := hid (HS2.out.below hb3); have HT3 := hid (HT2.out.below hb3); have HB3 := hid (HB2.out.trans (hb3.mono HB2.out.size)); obtain ⟨b3, c3, hv3, -⟩ := h3; subst hv3; clear hb3))
  go_ret
  have hb : Below w3.heap.size w3 (w3.alloc (.cells #[.pointer (some ⟨B, 0, none⟩), .pointer (some ⟨S, 0, none⟩), .slice (some ⟨b3, 0, none⟩) tabAttrs.length c3] 51)) := (Below.refl _ _).alloc (Nat.le_refl _) _
  exact ⟨w3.heap.size, rfl, ⟨B, S, _, Box.made w3 _ [_, _, _], HT3.out.below hb, HS3.out.below hb, HA3.out.below hb⟩, HB3.out.alloc HB3.out.size _⟩
end Go.Proofs.YtidjjaginindoaaGreat
