/- Several texts in one: Ref16b. -/
import Derived.Test.YtildhebaikeknaaGreatPk28
import Derived.Test.YtildhebaikeknaaGreatPk30
import Derived.Deep.RegionHeld3
import Derived.Test.YtildhebaikeknaaGreatPk1
/-! Ref16b -/
namespace Go.Proofs.YtildhebaikeknaaGreat
open Go.RowKit

set_option maxRecDepth 10000 in
set_option maxHeartbeats 8000000 in
theorem refAccent16 (S : Nat) (c : Int) (w : World) (h : SetsAt S w) : Calls Tryz.prog 74 #[.pointer (some ⟨S, 0, none⟩), .int .i64 c] w fun e w' => e = .returned (.tuple #[.int .i64 (accS c).1, .int .i64 (accS c).2.1, .bool (accS c).2.2]) ∧ Below w.heap.size w w' := by
  obtain ⟨R, hR⟩ : ∃ R, R = accS c := ⟨_, rfl⟩
  have hH : ∀ k, k < tabAccents.length → (∀ i, i < k → ((tabAccents.getD i noRg).v == c) = false) → ((tabAccents.getD k noRg).v == c) = true → R = ((tabAccents.getD k noRg).f, 32, true) := fun k hk ha hh => by rw [hR]; unfold accS; rw [fndS_hit (p := fun r => r.v == c) hk ha hh]; rfl
  have hN : (∀ i, i < tabAccents.length → ((tabAccents.getD i noRg).v == c) = false) → R = accTwo c (canonS c) := fun ha => by rw [hR]; unfold accS; rw [fndS_none (p := fun r => r.v == c) ha]; rfl
  have hT : ∀ x y m, ∀ z : Bool, canonS c = [x, y] → letB x = true → pairS x y = (m, z) → accTwo c (canonS c) = if z && m == c then (if (fndS (fun r => r.t == y) tabAccents).2 then ((fndS (fun r => r.t == y) tabAccents).1.f, x, true) else (0, 0, false)) else (0, 0, false) := fun x y m z h1 h2 h3 => by
    rw [h1]
    unfold accTwo
    rw [if_pos ⟨rfl, h2⟩]
    show (if (pairS x y).2 && (pairS x y).1 == c then _ else _) = _
    rw [h3]
    rfl
  have hH2 : ∀ y k, k < tabAccents.length → (∀ i, i < k → ((tabAccents.getD i noRg).t == y) = false) → ((tabAccents.getD k noRg).t == y) = true → fndS (fun r => r.t == y) tabAccents = (tabAccents.getD k noRg, true) := fun y k hk ha hh => fndS_hit (p := fun r => r.t == y) hk ha hh
  have hN2 : ∀ y, (∀ i, i < tabAccents.length → ((tabAccents.getD i noRg).t == y) = false) → fndS (fun r => r.t == y) tabAccents = (noRg, false) := fun y ha => fndS_none (p := fun r => r.t == y) ha
  rw [← hR]
  have HS := hid h
  obtain ⟨v1, v2, v3, B, hx, h1_old, h2, h3, h4⟩ := h
  have HX := hid hx
  have HTB := hid h4
  have ml := h2.len
  obtain ⟨a1, cap1, rfl, q1, -, h1⟩ := h2
  obtain ⟨l, hl⟩ : ∃ l, l = tabAccents := ⟨_, rfl⟩
  rw [← hl] at hH hN hT hH2 hN2 h1 ml q1 HX
  obtain ⟨n, hn⟩ : ∃ n, n = l.length := ⟨_, rfl⟩
  rw [← hn] at hH hN hH2 hN2 ml q1 HX h1
  have HH := hid hH
  have HN := hid hN
  have HT := hid hT
  have HH2 := hid hH2
  have HN2 := hid hN2
  have H1 := hid h1
  have x0 := HX.out.cell 1
  have x3 := HX.out.cell 3
  simp only [List.getElem?_cons_zero, List.getElem?_cons_succ] at x0 x3
  clear hR hH hN hT hH2 hN2 hx h1 h1_old h3 h4 hn hl
  have HPS := hid (fun x y w h => refTPair B x y w h)
  go_enter Tryz.func74, Tryz.ntmps74
  go_wp2
  go_loopw [7] (fun iv wr => ∃ k : Nat, k ≤ n ∧ iv = .int .i64 k ∧ w = wr ∧ Hid (∀ i, i < k → ((l.getD i noRg).v == c) = false)) (fun iv _ => n - (intOf iv).toNat)
  case atStart => exact ⟨0, by omega, rfl, rfl, fun i hi => absurd hi (by omega)⟩
  case round =>
    obtain ⟨k, hk, rfl, rfl, hall⟩ := hrel
    by_cases hlt : k < n
    · rcases H1.out with hc | ⟨b1, o1, rfl, hb1, c1⟩
      · omega
      obtain ⟨d1, d2, d3⟩ := c1 k hlt
      have hh := hid (HH.out k hlt hall.out)
      have HNX := hid (show ((l.getD k noRg).v == c) = false → ∀ i, i < k + 1 → ((l.getD i noRg).v == c) = false from fun he i hi => by
        rcases Nat.lt_or_ge i k with h | h
        · exact hall.out i h
        · obtain rfl : i = k := by omega
          exact he)
      clear c1 hb1
      generalize l.getD k noRg = r at d1 d2 d3 hh HNX
      obtain ⟨rf, rt, rv⟩ := r
      simp only at d1 d2 d3 hh HNX
      obtain ⟨b, hb⟩ : ∃ b, b = (rv == c) := ⟨_, rfl⟩
      rw [← hb] at hh HNX
      replace hb := hb.symm
      cases b with
      | true =>
        have hr := hid (hh.out rfl)
        clear hh HNX
        go_wp2
        go_ret3
        exact ⟨by rw [hr.out]; rfl, Below.refl _ _⟩
      | false =>
        have hr := hid (HNX.out rfl)
        clear hh HNX
        go_wp2
        go_roundw
        case rel => exact ⟨k + 1, by omega, by go_num, by trivial, hr.out⟩
        case measure => simp [intOf]; omega
    · have hkn : k = n := by omega
      have hr := hid (show R = accTwo c (canonS c) from HN.out (by rw [← hkn]; exact hall.out))
      clear hall HH HN hkn
      by_cases h2 : (canonS c).length = 2
      · obtain ⟨x, y, hxy⟩ : ∃ x y, canonS c = [x, y] := by
          match hc : canonS c, h2 with
          | [x, y], _ => exact ⟨x, y, rfl⟩
        have HCA := hid (fun w h => refTCanon B c w h)
        rw [hxy] at HCA
        have HLE := hid (fun w => refLetter16 x w)
        cases hle : letB x with
        | false =>
          rw [hle] at HLE
          have hr2 := hid (show R = (0, 0, false) by rw [hr.out, hxy]; unfold accTwo; rw [if_neg]; intro h; have := h.2; simp [hle] at this)
          clear hr h2 hxy hle HT HH2 HN2 HPS
          go_wp2_with (first
            | (go_at_call 87; refine (HCA.out _ HTB.out).mono ?_; rintro e w1 ⟨v5, rfl, hs5, hb5⟩; obtain ⟨b5, o5, c5, rfl, y0, y1⟩ := Sl.two hs5; have HB5 := hid hb5; clear hs5 hb5)
            | (go_at_call 88; with_reducible refine (HLE.out _).mono ?_; rintro e w2 ⟨rfl, rfl⟩))
          go_ret3
          exact ⟨by rw [hr2.out]; rfl, HB5.out⟩
        | true =>
          rw [hle] at HLE
          obtain ⟨m, z, hmz⟩ : ∃ m z, pairS x y = (m, z) := ⟨_, _, rfl⟩
          have hr2 := HT.out x y m z hxy hle hmz
          rw [← hr.out] at hr2
          have HP := hid (HPS.out x y)
          rw [hmz] at HP
          have HHA := hid (HH2.out y)
          have HNA := hid (HN2.out y)
          obtain ⟨zz, hzz⟩ : ∃ b, b = (z && m == c) := ⟨_, rfl⟩
          rw [← hzz] at hr2
          have hRh : ∀ k, k < n → zz = true → (∀ i, i < k → ((l.getD i noRg).t == y) = false) → ((l.getD k noRg).t == y) = true → R = ((l.getD k noRg).f, x, true) := fun k hk hz ha hh => by rw [hr2, hz, HHA.out k hk ha hh]; rfl
          have hRn : (zz = true → ∀ i, i < n → ((l.getD i noRg).t == y) = false) → R = (0, 0, false) := fun ha => by
            rw [hr2]
            cases zz with
            | false => rfl
            | true => rw [HNA.out (ha rfl)]; rfl
          have HRH := hid hRh
          have HRN := hid hRn
          have HZZ := hid hzz
          clear hr hr2 hRh hRn hzz HHA HNA h2 hxy hle HT HH2 HN2 HPS hmz
          go_wp2_with (first
            | (go_at_call 87; refine (HCA.out _ HTB.out).mono ?_; rintro e w1 ⟨v5, rfl, hs5, hb5⟩; obtain ⟨b5, o5, c5, rfl, y0, y1⟩ := Sl.two hs5; have HB5 := hid hb5; clear hs5 hb5)
            | (go_at_call 88; with_reducible refine (HLE.out _).mono ?_; rintro e w2 ⟨rfl, rfl⟩))
          have HY0 := hid y0
          have HY1 := hid y1
          clear y0 y1
          go_loopw [9] (fun iv wr => ∃ q : Nat, q ≤ n ∧ iv = .int .i64 q ∧ Hid (Below w1.heap.size w1 wr) ∧ Hid (zz = true → ∀ i, i < q → ((l.getD i noRg).t == y) = false)) (fun iv _ => n - (intOf iv).toNat)
          case atStart => exact ⟨0, by omega, rfl, Below.refl _ _, fun _ i hi => absurd hi (by omega)⟩
          case round =>
            obtain ⟨q, hq, rfl, hbel, hall⟩ := hrel
            have HB6 := hid (HB5.out.trans (hbel.out.mono HB5.out.size))
            have HX6 := hid (HX.out.below HB6.out HX.out.lt)
            have x0 := HX6.out.cell 1
            have x3 := HX6.out.cell 3
            simp only [List.getElem?_cons_zero, List.getElem?_cons_succ] at x0 x3
            have lt5 := World.block_lt_of_cell? w1 _ HY0.out
            have y0 := (hbel.out.cell (p := ⟨b5, o5, none⟩) lt5).trans HY0.out
            have y1 := (hbel.out.cell (p := ⟨b5, o5 + 1, none⟩) lt5).trans HY1.out
            by_cases hlt : q < n
            · rcases H1.out with hc | ⟨b1, o1, rfl, hb1, c1⟩
              · omega
              obtain ⟨d1, d2, d3⟩ := c1 q hlt
              have hb1' := hb1 (by omega)
              have d1 := (HB6.out.cell (p := ⟨b1, o1 + q * 3, none⟩) hb1').trans d1
              have d2 := (HB6.out.cell (p := ⟨b1, o1 + q * 3 + 1, none⟩) hb1').trans d2
              have hh := hid (fun (hz : zz = true) => HRH.out q hlt hz (hall.out hz))
              have HNX := hid (show (zz = true → ((l.getD q noRg).t == y) = false) → zz = true → ∀ i, i < q + 1 → ((l.getD i noRg).t == y) = false from fun he hz i hi => by
                rcases Nat.lt_or_ge i q with h | h
                · exact hall.out hz i h
                · obtain rfl : i = q := by omega
                  exact he hz)
              clear c1 hb1 d3 lt5
              generalize l.getD q noRg = r at d1 d2 hh HNX
              obtain ⟨rf, rt, rv⟩ := r
              simp only at d1 d2 hh HNX
              obtain ⟨b, hb⟩ : ∃ b, b = (rt != y) := ⟨_, rfl⟩
              replace hb := hb.symm
              cases b with
              | true =>
                have hr := hid (HNX.out (fun _ => by simpa using hb))
                clear hh HNX
                go_wp2
                go_quiet (fail)
                go_wp2
                go_roundw
                case rel => exact ⟨q + 1, by omega, by go_num, hbel.out.trans (below_drewN _), hr.out⟩
                case measure => simp [intOf]; omega
              | false =>
                have hty : (rt == y) = true := by simpa using hb
                have hh2 := hid (fun hz => hh.out hz hty)
                clear hh
                go_wp2
                go_quiet (fail)
                go_wp2
                obtain ⟨W3, hW3⟩ : ∃ W, W = wr.drewN nq := ⟨_, rfl⟩
                have HB3 := hid (show Below wr.heap.size wr W3 by rw [hW3]; exact below_drewN _)
                rw [← hW3]
                clear hW3
                have HE3 := hid (HB6.out.trans (HB3.out.mono HB6.out.size))
                have HT3 := hid (HTB.out.below HE3.out)
                have HXS := hid (HX6.out.below HB3.out HX6.out.lt)
                have HSS := hid (fun (w' : World) (h : Below W3.heap.size W3 w') => (show w'.cell? ⟨S, 3, none⟩ = some (.pointer (some ⟨B, 0, none⟩)) ∧ w'.cell? ⟨b5, o5, none⟩ = some (.int .i64 x) ∧ w'.cell? ⟨b5, o5 + 1, none⟩ = some (.int .i64 y) from
                  ⟨(Box.below HXS.out h HXS.out.lt).cell 3, (h.cell (p := ⟨b5, o5, none⟩) (Nat.lt_of_lt_of_le (World.block_lt_of_cell? wr _ y0) HB3.out.size)).trans ((HB3.out.cell (p := ⟨b5, o5, none⟩) (World.block_lt_of_cell? wr _ y0)).trans y0), (h.cell (p := ⟨b5, o5 + 1, none⟩) (Nat.lt_of_lt_of_le (World.block_lt_of_cell? wr _ y1) HB3.out.size)).trans ((HB3.out.cell (p := ⟨b5, o5 + 1, none⟩) (World.block_lt_of_cell? wr _ y1)).trans y1)⟩))
                have HD := hid (fun (w' : World) (h : Below W3.heap.size W3 w') => (h.cell (p := ⟨b1, o1 + q * 3, none⟩) (Nat.lt_of_lt_of_le (World.block_lt_of_cell? wr _ d1) HB3.out.size)).trans ((HB3.out.cell (p := ⟨b1, o1 + q * 3, none⟩) (World.block_lt_of_cell? wr _ d1)).trans d1))
                have HBq := hid (Below.refl W3.heap.size W3).drew
                clear x0 x3 y0 y1 d1 d2 hb1'
                go_region_held3 (fun w' => w'.cell? ⟨S, 3, none⟩ = some (.pointer (some ⟨B, 0, none⟩)) ∧ w'.cell? ⟨b5, o5, none⟩ = some (.int .i64 x) ∧ w'.cell? ⟨b5, o5 + 1, none⟩ = some (.int .i64 y))
                  (first | exact HSS.out _ HBp.out | exact HSS.out _ HBq.out)
                  (first | (go_simp; go_at_call 89; with_reducible refine (HP.out _ (HT3.out.below HBq.out)).mono ?_; rintro e wp ⟨rfl, hbp⟩; have HBp := hid (HBq.out.trans (hbp.mono HBq.out.size)); clear hbp))
                have HBF := hid (hbel.out.trans ((HB3.out.trans (HBp.out.mono HB3.out.size)).mono hbel.out.size))
                cases z with
                | false =>
                  have hr := hid (HNX.out (fun hz => absurd hz (by rw [HZZ.out]; simp)))
                  go_wp2
                  go_roundw
                  case rel => exact ⟨q + 1, by omega, by go_num, HBF.out, hr.out⟩
                  case measure => simp [intOf]; omega
                | true =>
                  obtain ⟨b2, hb2⟩ : ∃ b, b = (m == c) := ⟨_, rfl⟩
                  replace hb2 := hb2.symm
                  cases b2 with
                  | true =>
                    have hr := hid (hh2.out (by rw [HZZ.out, hb2]; rfl))
                    have x0 := (Box.below HXS.out HBp.out HXS.out.lt).cell 1
                    simp only [List.getElem?_cons_zero, List.getElem?_cons_succ] at x0
                    have y0 := (HSS.out _ HBp.out).2.1
                    have d1 := HD.out _ HBp.out
                    have HEF := hid (HE3.out.trans (HBp.out.mono HE3.out.size))
                    go_wp2
                    go_quiet (fail)
                    go_wp2
                    go_ret3
                    exact ⟨by rw [hr.out]; rfl, HEF.out.trans (below_drewN' (Below.refl _ _) _)⟩
                  | false =>
                    have hr := hid (HNX.out (fun hz => absurd hz (by rw [HZZ.out]; simp [hb2])))
                    go_wp2
                    go_roundw
                    case rel => exact ⟨q + 1, by omega, by go_num, HBF.out, hr.out⟩
                    case measure => simp [intOf]; omega
            · obtain rfl : q = n := by omega
              have hr := hid (HRN.out hall.out)
              go_wp2
              go_ret3
              exact ⟨by rw [hr.out]; rfl, HB6.out⟩
      · have hr2 := hid (show R = (0, 0, false) by rw [hr.out]; unfold accTwo; rw [if_neg]; intro h; exact h2 h.1)
        have HCA := hid (fun w h => refTCanon B c w h)
        obtain ⟨L, hL⟩ : ∃ L, L = canonS c := ⟨_, rfl⟩
        rw [← hL] at HCA h2
        obtain ⟨nl, hnl⟩ : ∃ nl, nl = L.length := ⟨_, rfl⟩
        rw [← hnl] at h2
        have hne : ((nl : Int) != 2) = true := by simp; omega
        have HNL := hid hnl
        clear hr h2 hL hnl HT HH2 HN2 HPS
        go_wp2_with (first
          | (go_at_call 87; refine (HCA.out _ HTB.out).mono ?_; rintro e w1 ⟨v5, rfl, hs5, hb5⟩; obtain ⟨a5, c5, hv5⟩ := hs5.form; rw [← HNL.out] at hv5; subst hv5; have HB5 := hid hb5; clear hs5 hb5))
        go_ret3
        exact ⟨by rw [hr2.out]; rfl, HB5.out⟩
end Go.Proofs.YtildhebaikeknaaGreat
