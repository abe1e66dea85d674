/- Several texts in one: Ref6d. -/
import Derived.Test.YtildhebaikeknaaGreatPk26
/-! Ref6d -/
namespace Go.Proofs.YtildhebaikeknaaGreat
open Go.RowKit

def refP (a b : Int) (r : Rg) : Bool := !(r.v == 0) && (!(r.t != a) && (!(r.v != b) && (!(classS a != 0) && (!(classS r.f != 0) && !exclL.any (· == r.f)))))
theorem idx_any (c : Int) : ∀ (l : List Int) (o : Int), 0 ≤ o → decide (0 ≤ idxL c l o) = l.any (· == c)
  | [], o, _ => by simp [idxL]
  | x :: l, o, h => by
    rw [idxL, List.any_cons]
    cases hx : (x == c) with
    | true => simp [h]
    | false => simpa using idx_any c l (o + 1) (by omega)
theorem fndS_filter {p q : Rg → Bool} : ∀ l : List Rg, fndS p (l.filter q) = fndS (fun r => q r && p r) l
  | [] => rfl
  | r :: l => by
    rw [List.filter_cons, fndS]
    cases hq : q r with
    | true =>
      simp only [if_true, Bool.true_and]
      rw [fndS, fndS_filter l]
    | false =>
      simp only [Bool.false_eq_true, if_false, Bool.false_and]
      exact fndS_filter l
theorem fndS_ext {p q : Rg → Bool} (h : ∀ r, p r = q r) : ∀ l : List Rg, fndS p l = fndS q l
  | [] => rfl
  | r :: l => by rw [fndS, fndS, h r, fndS_ext h l]
theorem pair_same (a b : Int) : pairS a b = ((fndS (refP a b) tabCanon).1.f, (fndS (refP a b) tabCanon).2) := by
  have e : fndS (fun r => r.t == a && r.v == b) tabPair = fndS (refP a b) tabCanon := by
    unfold tabPair
    rw [fndS_filter]
    refine fndS_ext (fun r => ?_) _
    unfold refP delS inL
    rw [idx_any _ _ _ (Int.le_refl 0), class_look, class_look]
    cases h1 : (r.t == a) with
    | false =>
      have : (r.t != a) = true := by simp only [bne, h1]; rfl
      rw [this]
      simp
    | true =>
      have h2 := eq_of_beq h1
      have : (r.t != a) = false := by simp only [bne, h1]; rfl
      rw [this, h2]
      cases (r.v == 0) <;> cases exclL.any (· == r.f) <;> cases hb : (r.v == b) <;> simp [bne, hb, Bool.and_comm]
  unfold pairS
  rw [e]
/-- whether one of the first so many is x -/
def outB (x : Int) (j : Nat) : Bool := (exclL.take j).any (· == x)
theorem outB_next {x : Int} {j : Nat} (h : j < 6) : outB x (j + 1) = (outB x j || (exclL.getD j 0 == x)) := by
  unfold outB
  rw [List.take_succ_eq_append_getElem (show j < exclL.length from h), List.any_append, List.any_cons, List.any_nil, Bool.or_false]
  congr 1
  rw [List.getD_eq_getElem?_getD, List.getElem?_eq_getElem (show j < exclL.length from h)]
  rfl

set_option maxHeartbeats 8000000 in
set_option maxRecDepth 8000 in
theorem refTPair (B : Nat) (a b : Int) (w : World) (h : TabsAt B w) : Calls Tryz.prog 89 #[.pointer (some ⟨B, 0, none⟩), .int .i64 a, .int .i64 b] w fun e w' => e = .returned (.tuple #[.int .i64 (pairS a b).1, .bool (pairS a b).2]) ∧ Below w.heap.size w w' := by
  rw [pair_same]
  have HT := hid h
  obtain ⟨v1, v2, v3, v4, v5, hx, h1, h2, h3, h4, h5⟩ := h
  have HX := hid hx
  clear h2 h3 h5 hx
  have ml := h1.len
  obtain ⟨l, hl⟩ : ∃ l, l = tabCanon := ⟨_, rfl⟩
  obtain ⟨R, hRR⟩ : ∃ R, R = fndS (refP a b) l := ⟨_, rfl⟩
  rw [← hl] at h1 ml ⊢
  rw [← hRR]
  clear hl
  obtain ⟨a1, cap1, rfl, q1, -, h1⟩ := h1
  obtain ⟨n, hn⟩ : ∃ n, n = l.length := ⟨_, rfl⟩
  have hH : ∀ k, k < n → (∀ i, i < k → refP a b (l.getD i noRg) = false) → refP a b (l.getD k noRg) = true → R = (l.getD k noRg, true) := fun k hk ha hh => by rw [hRR, fndS_hit (p := refP a b) (by omega) ha hh]
  have hN : (∀ i, i < n → refP a b (l.getD i noRg) = false) → R = (noRg, false) := fun ha => by rw [hRR, fndS_none (p := refP a b) (by rw [← hn]; exact ha)]
  obtain ⟨a4, cap4, hv4, q4, -, h4⟩ := h4
  rw [show exclL.length = 6 from rfl] at hv4
  subst hv4
  have HH := hid hH
  have HN := hid hN
  have H1 := hid h1
  have H4 := hid h4
  rw [← hn] at ml q1 H1 HX
  clear hH hN h1 hn hRR h4
  obtain ⟨ca, hca⟩ : ∃ ca, ca = classS a := ⟨_, rfl⟩
  have HCA := hid hca
  have x0 := HX.out.cell 0
  simp only [List.getElem?_cons_zero] at x0
  go_enter Tryz.func89, Tryz.ntmps89
  go_wp2_with (fail)
  go_loopw [8] (fun iv wr => ∃ k : Nat, k ≤ n ∧ iv = .int .i64 k ∧ Hid (Below w.heap.size w wr) ∧ Hid (∀ i, i < k → refP a b (l.getD i noRg) = false)) (fun iv _ => n - (intOf iv).toNat)
  case atStart => exact ⟨0, by omega, rfl, Below.refl _ _, fun i hi => absurd hi (by omega)⟩
  case round =>
    obtain ⟨k, hk, rfl, hbel, hall⟩ := hrel
    have x0 := (HX.out.below hbel.out HX.out.lt).cell 0
    simp only [List.getElem?_cons_zero] at x0
    by_cases hlt : k < n
    · rcases H1.out with hc | ⟨b1, o1, rfl, hb1, c1⟩
      · omega
      have hb1' := hb1 (by omega)
      obtain ⟨d1, d2, d3⟩ := c1 k hlt
      have d1 := (hbel.out.cell (p := ⟨b1, o1 + k * 3, none⟩) hb1').trans d1
      have d2 := (hbel.out.cell (p := ⟨b1, o1 + k * 3 + 1, none⟩) hb1').trans d2
      have d3 := (hbel.out.cell (p := ⟨b1, o1 + k * 3 + 2, none⟩) hb1').trans d3
      have hh := hid (HH.out k hlt hall.out)
      have HNX := hid (show refP a b (l.getD k noRg) = false → ∀ i, i < k + 1 → refP a b (l.getD i noRg) = false from fun he i hi => by
        rcases Nat.lt_or_ge i k with h | h
        · exact hall.out i h
        · obtain rfl : i = k := by omega
          exact he)
      clear c1
      generalize l.getD k noRg = r at d1 d2 d3 hh HNX
      obtain ⟨rf, rt, rv⟩ := r
      simp only at d1 d2 d3 hh HNX
      obtain ⟨cf, hcf⟩ : ∃ cf, cf = classS rf := ⟨_, rfl⟩
      have HCF := hid hcf
      obtain ⟨p1, hp1⟩ : ∃ p, p = (rv == 0) := ⟨_, rfl⟩
      obtain ⟨p2, hp2⟩ : ∃ p, p = (rt != a) := ⟨_, rfl⟩
      obtain ⟨p3, hp3⟩ : ∃ p, p = (rv != b) := ⟨_, rfl⟩
      obtain ⟨p4, hp4⟩ : ∃ p, p = (ca != 0) := ⟨_, rfl⟩
      obtain ⟨p5, hp5⟩ : ∃ p, p = (cf != 0) := ⟨_, rfl⟩
      have hrp : refP a b ⟨rf, rt, rv⟩ = (!p1 && (!p2 && (!p3 && (!p4 && (!p5 && !exclL.any (· == rf)))))) := by rw [hp1, hp2, hp3, hp4, hp5, hca, hcf]; rfl
      rw [hrp] at hh HNX
      clear hrp hcf
      replace hp1 := hp1.symm
      replace hp2 := hp2.symm
      replace hp3 := hp3.symm
      replace hp4 := hp4.symm
      replace hp5 := hp5.symm
      have HB2 := hid (hbel.out.alloc hbel.out.size (.cells #[.int .i64 rf, .int .i64 rt, .int .i64 rv] 49))
      have HTA := hid (HT.out.below HB2.out)
      clear hca
      cases p1 with
      | true =>
        have hr := hid (HNX.out rfl)
        clear HNX hh
        go_wp2_with (fail)
        go_roundw
        case rel => exact ⟨k + 1, by omega, by go_num, HB2.out, hr.out⟩
        case measure => simp [intOf]; omega
      | false =>
        cases p2 with
        | true =>
          have hr := hid (HNX.out rfl)
          clear HNX hh
          go_wp2_with (fail)
          go_roundw
          case rel => exact ⟨k + 1, by omega, by go_num, HB2.out, hr.out⟩
          case measure => simp [intOf]; omega
        | false =>
          cases p3 with
          | true =>
            have hr := hid (HNX.out rfl)
            clear HNX hh
            go_wp2_with (fail)
            go_roundw
            case rel => exact ⟨k + 1, by omega, by go_num, HB2.out, hr.out⟩
            case measure => simp [intOf]; omega
          | false =>
            cases p4 with
            | true =>
              have hr := hid (HNX.out rfl)
              clear HNX hh
              go_wp2_with (first
                | (go_at_call 101; with_reducible refine (refTClass B a _ HTA.out).mono ?_; rw [← HCA.out]; rintro e w1 ⟨rfl, rfl⟩))
              go_roundw
              case rel => exact ⟨k + 1, by omega, by go_num, HB2.out, hr.out⟩
              case measure => simp [intOf]; omega
            | false =>
              cases p5 with
              | true =>
                have hr := hid (HNX.out rfl)
                clear HNX hh
                go_wp2_with (first
                  | (go_at_call 101; with_reducible refine (refTClass B a _ HTA.out).mono ?_; rw [← HCA.out]; rintro e w1 ⟨rfl, rfl⟩)
                  | (go_at_call 101; with_reducible refine (refTClass B rf _ HTA.out).mono ?_; rw [← HCF.out]; rintro e w1 ⟨rfl, rfl⟩))
                go_roundw
                case rel => exact ⟨k + 1, by omega, by go_num, HB2.out, hr.out⟩
                case measure => simp [intOf]; omega
              | false =>
                have y0 := (HX.out.below HB2.out HX.out.lt).cell 3
                simp only [List.getElem?_cons_zero, List.getElem?_cons_succ] at y0
                have z0 := (Box.made wr 49 [.int .i64 rf, .int .i64 rt, .int .i64 rv]).cell 0
                simp only [List.getElem?_cons_zero] at z0
                go_wp2_with (first
                  | (go_at_call 101; with_reducible refine (refTClass B a _ HTA.out).mono ?_; rw [← HCA.out]; rintro e w1 ⟨rfl, rfl⟩)
                  | (go_at_call 101; with_reducible refine (refTClass B rf _ HTA.out).mono ?_; rw [← HCF.out]; rintro e w1 ⟨rfl, rfl⟩))
                generalize wr.alloc (.cells #[.int .i64 rf, .int .i64 rt, .int .i64 rv] 49) = W at HB2 HTA y0 z0 ⊢
                generalize wr.heap.size = X at z0 ⊢
                go_loopw [10, 11] (fun bv iv wx => ∃ j q : Nat, j ≤ 6 ∧ iv = .int .i64 j ∧ wx = W.drewN q ∧ Hid (bv = .bool (outB rf j))) (fun _ iv _ => 6 - (intOf iv).toNat)
                case atStart => exact ⟨0, 0, by omega, rfl, rfl, rfl⟩
                case round =>
                  obtain ⟨j, q, hj, rfl, rfl, hbv⟩ := hrel
                  by_cases hj6 : j < 6
                  · rcases H4.out with hc4 | ⟨b4, o4, rfl, hb4, c4⟩
                    · have : exclL.length = 6 := rfl
                      omega
                    have e4 := (HB2.out.cell (p := ⟨b4, o4 + j, none⟩) (hb4 (by decide))).trans (c4 j hj6)
                    have hnx := hid (outB_next (x := rf) hj6)
                    clear c4
                    generalize exclL.getD j 0 = y at e4 hnx
                    obtain ⟨ob, hob⟩ : ∃ ob, ob = outB rf j := ⟨_, rfl⟩
                    rw [← hob] at hbv hnx
                    have hv := hbv.out
                    subst hv
                    clear hbv hob
                    cases ob with
                    | true =>
                      have hn2 := hid (show Value.bool true = .bool (outB rf (j + 1)) by rw [hnx.out]; rfl)
                      go_wp2_with (fail)
                      go_quiet (fail)
                      go_wp2_with (fail)
                      go_roundw
                      case rel => exact ⟨j + 1, q + nq, by omega, by go_num, by first | rfl | exact World.drewN_drewN _ _ _, hn2.out⟩
                      case measure => simp [intOf]; omega
                    | false =>
                      obtain ⟨e, he⟩ : ∃ e, e = (y == rf) := ⟨_, rfl⟩
                      have hn2 := hid (show Value.bool e = .bool (outB rf (j + 1)) by rw [hnx.out, he]; rfl)
                      replace he := he.symm
                      go_wp2_with (fail)
                      go_quiet (fail)
                      go_wp2_with (fail)
                      go_roundw
                      case rel => exact ⟨j + 1, q + nq, by omega, by go_num, by first | rfl | exact World.drewN_drewN _ _ _, hn2.out⟩
                      case measure => simp [intOf]; omega
                  · obtain rfl : j = 6 := by omega
                    have ho : outB rf 6 = exclL.any (· == rf) := rfl
                    have hv := hbv.out
                    rw [ho] at hv
                    rw [hv]
                    obtain ⟨ob, hob⟩ : ∃ ob, ob = exclL.any (· == rf) := ⟨_, rfl⟩
                    rw [← hob] at hh HNX ⊢
                    have HB5 := hid (below_drewN' HB2.out q)
                    clear hv ho hob hbv
                    cases ob with
                    | true =>
                      have hr := hid (HNX.out rfl)
                      clear HNX hh
                      go_wp2_with (fail)
                      go_roundw
                      case rel => exact ⟨k + 1, by omega, by go_num, HB5.out, hr.out⟩
                      case measure => simp [intOf]; omega
                    | false =>
                      have hr := hid (hh.out rfl)
                      clear HNX hh
                      go_wp2_with (fail)
                      go_ret2
                      exact ⟨by rw [hr.out]; rfl, HB5.out⟩
    · obtain rfl : k = n := by omega
      have hr := hid (HN.out hall.out)
      go_wp2_with (fail)
      go_ret2
      exact ⟨by rw [hr.out]; rfl, hbel.out⟩
end Go.Proofs.YtildhebaikeknaaGreat
