/- Several texts in one: Ref11b, LawExact11. -/
import Derived.Test.YtimbchkoomjhkaaPk39
import Derived.Test.YtimbchkoomjhkaaPk18
import Derived.Test.YtimbchkoomjhkaaPk12
/-! Ref11b -/
namespace Go.Proofs.Ytimbchkoomjhkaa
open Go.RowKit

def rowQ (c : Int) (r : Rg) : Bool := r.v == c && (c != 0 && ((pairS r.t c).2 && (pairS r.t c).1 == r.f))
theorem second_rows (c : Int) : secondB c = tabCanon.any (rowQ c) := rfl
theorem any_hit {l : List Rg} {p : Rg → Bool} {k : Nat} (h : k < l.length) (hp : p (l.getD k noRg) = true) : l.any p = true := by
  rw [List.any_eq_true]
  exact ⟨l[k], List.getElem_mem _, by rw [List.getD_eq_getElem?_getD, List.getElem?_eq_getElem h] at hp; exact hp⟩
theorem any_none {l : List Rg} {p : Rg → Bool} (h : ∀ k, k < l.length → p (l.getD k noRg) = false) : l.any p = false := by
  rw [List.any_eq_false]
  intro x hx
  obtain ⟨k, hk, rfl⟩ := List.getElem_of_mem hx
  have := h k hk
  rw [List.getD_eq_getElem?_getD, List.getElem?_eq_getElem hk] at this
  simpa using this
theorem quickB_eq (k : Bool) (c : Int) : quickB k c = ((eqL (oneS k c) [c] && classS c == 0) && (!(inB c 4449 4469 || inB c 4520 4546) && !secondB c)) := by
  unfold quickB inB
  have e : (oneS k c == [c]) = eqL (oneS k c) [c] := by rw [Bool.eq_iff_iff, beq_iff_eq]; exact eqL_iff.symm
  rw [e]
theorem all_hit {s : List Int} {p : Int → Bool} {j : Nat} (h : j < s.length) (hp : p (s.getD j 0) = false) : s.all p = false := by
  rw [List.all_eq_false]
  exact ⟨s[j], List.getElem_mem _, by rw [List.getD_eq_getElem?_getD, List.getElem?_eq_getElem h] at hp; simpa using hp⟩
theorem all_none {s : List Int} {p : Int → Bool} (h : ∀ j, j < s.length → p (s.getD j 0) = true) : s.all p = true := by
  rw [List.all_eq_true]
  intro x hx
  obtain ⟨k, hk, rfl⟩ := List.getElem_of_mem hx
  have := h k hk
  rw [List.getD_eq_getElem?_getD, List.getElem?_eq_getElem hk] at this
  exact this

set_option maxRecDepth 10000 in
set_option maxHeartbeats 8000000 in
theorem refQuick11 (k : Bool) (B : Nat) (v : Value) (s : List Int) (w : World) (h : TabsAt B w) (hs : Sl .i64 w v s) (hi : s.all inI = true) : Calls Try.prog 18 #[.pointer (some ⟨B, 0, none⟩), v, .bool k] w fun e w' => e = .returned (.bool (quickS k s)) ∧ Below w.heap.size w w' := by
  have HT := hid h
  obtain ⟨v1, v2, v3, v4, v5, hx, g1, g2, g3, g4, g5⟩ := h
  have HX := hid hx
  clear g2 g3 g4 g5 hx
  have mr := g1.len
  obtain ⟨rows, hrw⟩ : ∃ l, l = tabCanon := ⟨_, rfl⟩
  rw [← hrw] at g1 mr
  obtain ⟨ar, capr, rfl, qr, -, g1⟩ := g1
  obtain ⟨m, hm⟩ : ∃ m, m = rows.length := ⟨_, rfl⟩
  have HSEC := hid (fun c => (show secondB c = rows.any (rowQ c) from by rw [hrw]; rfl))
  have HM := hid hm
  have HR1 := hid g1
  rw [← hm] at mr qr HR1 HX
  clear hrw hm g1
  have HS := hid hs
  have ml := hs.len
  obtain ⟨a1, cap1, rfl, q1, -, h1⟩ := hs
  obtain ⟨n, hn⟩ : ∃ n, n = s.length := ⟨_, rfl⟩
  have HN := hid hn
  have H1 := hid h1
  obtain ⟨R, hR⟩ : ∃ R, R = quickS k s := ⟨_, rfl⟩
  have HF := hid (fun j (hj : j < n) (hq : quickB k (s.getD j 0) = false) => (show R = false from by rw [hR]; exact all_hit (by omega) hq))
  have HA := hid (fun (hq : ∀ j, j < n → quickB k (s.getD j 0) = true) => (show R = true from by rw [hR]; exact all_none (fun j hj => hq j (by omega))))
  have HCI := hid (fun j (hj : j < n) => (show inI (s.getD j 0) = true from by
    have e : s.getD j 0 = s[j]'(by omega) := by rw [List.getD_eq_getElem?_getD, List.getElem?_eq_getElem (by omega)]; rfl
    rw [e]
    exact List.all_eq_true.1 hi _ (List.getElem_mem _)))
  rw [← hn] at ml q1 H1 ⊢
  rw [← hR]
  clear hn h1 hi hR
  go_enter Try.func18, Try.ntmps18
  go_wp2_with (fail)
  go_loopw [7] (fun iv wr => ∃ j : Nat, j ≤ n ∧ iv = .int .i64 j ∧ Hid (Below w.heap.size w wr) ∧ Hid (∀ i, i < j → quickB k (s.getD i 0) = true)) (fun iv _ => n - (intOf iv).toNat)
  case atStart => exact ⟨0, by omega, rfl, Below.refl _ _, fun i hi => absurd hi (by omega)⟩
  case round =>
    obtain ⟨j, hj, rfl, hbel, hall⟩ := hrel
    by_cases hlt : j < n
    · rcases H1.out with hc | ⟨b1, o1, rfl, hb1, c1⟩
      · omega
      have d1 := (hbel.out.cell (p := ⟨b1, o1 + j, none⟩) (hb1 (by omega))).trans (c1 j hlt)
      have HFJ := hid (HF.out j hlt)
      have HCJ := hid (HCI.out j hlt)
      have HNX := hid (show quickB k (s.getD j 0) = true → ∀ i, i < j + 1 → quickB k (s.getD i 0) = true from fun he i hi => by
        rcases Nat.lt_or_ge i j with h | h
        · exact hall.out i h
        · obtain rfl : i = j := by omega
          exact he)
      clear c1 hb1
      generalize s.getD j 0 = c at d1 HFJ HCJ HNX
      rw [quickB_eq] at HFJ HNX
      have HTJ := hid (HT.out.below hbel.out)
      have H0 := hid (fun w h => refOne8 k B c w h HCJ.out)
      generalize oneS k c = O at H0 HFJ HNX
      have HC := hid (fun w h => refTClass B c w h)
      generalize classS c = cc at HC HFJ HNX
      have HI1 := hid (fun w => refIn6 c 4449 4469 w)
      have HI2 := hid (fun w => refIn6 c 4520 4546 w)
      generalize inB c 4449 4469 = i1 at HI1 HFJ HNX
      generalize inB c 4520 4546 = i2 at HI2 HFJ HNX
      obtain ⟨e1, he1⟩ : ∃ e, e = eqL O [c] := ⟨_, rfl⟩
      rw [← he1] at HFJ HNX
      have HE1 := hid he1.symm
      clear he1
      cases e1 with
      | false =>
        have hr := hid (HFJ.out rfl)
        clear HFJ HNX
        go_wp2_with (first
          | (go_at_call 40; refine (H0.out _ HTJ.out).mono ?_; rintro e w1 ⟨v1, rfl, ho1, hb1⟩; have HO1 := hid ho1; have HB1 := hid (hbel.out.trans (hb1.mono hbel.out.size)); have HT1 := hid (HTJ.out.below hb1); clear ho1 hb1)
          | (have _u := HB1; clear _u; go_at_call 13; refine (keepInts v1 _ O [c] _ (HO1.out.below (by (repeat (first | exact Below.refl _ _ | exact below_drewN _ | refine Below.drew ?_ | refine Below.alloc ?_ (by simp) _ | refine Below.setCell ?_ (by simp) _ | refine below_drewN' ?_ _)))) (lit_sl (by first | simp | rfl) rfl rfl (by simp))).mono ?_; rw [HE1.out]; rintro e w2 ⟨rfl, n2, hw2⟩; have HB2 := hid (show Below w.heap.size w w2 from by rw [hw2]; exact below_drewN' (HB1.out.alloc HB1.out.size _) n2); have HT2 := hid (show TabsAt B w2 from by rw [hw2]; exact HT1.out.below (below_drewN' (by (repeat (first | exact Below.refl _ _ | exact below_drewN _ | refine Below.drew ?_ | refine Below.alloc ?_ (by simp) _ | refine Below.setCell ?_ (by simp) _ | refine below_drewN' ?_ _))) n2)); clear hw2))
        go_ret
        exact ⟨by rw [hr.out]; rfl, HB2.out⟩
      | true =>
        by_cases hc0 : cc = 0
        · subst hc0
          cases i1 with
          | true =>
            have hr := hid (HFJ.out rfl)
            clear HFJ HNX
            go_wp2_with (first
              | (go_at_call 40; refine (H0.out _ HTJ.out).mono ?_; rintro e w1 ⟨v1, rfl, ho1, hb1⟩; have HO1 := hid ho1; have HB1 := hid (hbel.out.trans (hb1.mono hbel.out.size)); have HT1 := hid (HTJ.out.below hb1); clear ho1 hb1)
              | (have _u := HB1; clear _u; go_at_call 13; refine (keepInts v1 _ O [c] _ (HO1.out.below (by (repeat (first | exact Below.refl _ _ | exact below_drewN _ | refine Below.drew ?_ | refine Below.alloc ?_ (by simp) _ | refine Below.setCell ?_ (by simp) _ | refine below_drewN' ?_ _)))) (lit_sl (by first | simp | rfl) rfl rfl (by simp))).mono ?_; rw [HE1.out]; rintro e w2 ⟨rfl, n2, hw2⟩; have HB2 := hid (show Below w.heap.size w w2 from by rw [hw2]; exact below_drewN' (HB1.out.alloc HB1.out.size _) n2); have HT2 := hid (show TabsAt B w2 from by rw [hw2]; exact HT1.out.below (below_drewN' (by (repeat (first | exact Below.refl _ _ | exact below_drewN _ | refine Below.drew ?_ | refine Below.alloc ?_ (by simp) _ | refine Below.setCell ?_ (by simp) _ | refine below_drewN' ?_ _))) n2)); clear hw2)
              | (have _u := HB2; clear _u; go_at_call 41; refine (HC.out _ HT2.out).mono ?_; rintro e w3 ⟨rfl, rfl⟩)
              | (have _u := HB2; clear _u; go_at_call 42; with_reducible refine (HI1.out _).mono ?_; rintro e w4 ⟨rfl, rfl⟩))
            go_ret
            exact ⟨by rw [hr.out]; rfl, HB2.out⟩
          | false =>
            cases i2 with
            | true =>
              have hr := hid (HFJ.out rfl)
              clear HFJ HNX
              go_wp2_with (first
                | (go_at_call 40; refine (H0.out _ HTJ.out).mono ?_; rintro e w1 ⟨v1, rfl, ho1, hb1⟩; have HO1 := hid ho1; have HB1 := hid (hbel.out.trans (hb1.mono hbel.out.size)); have HT1 := hid (HTJ.out.below hb1); clear ho1 hb1)
                | (have _u := HB1; clear _u; go_at_call 13; refine (keepInts v1 _ O [c] _ (HO1.out.below (by (repeat (first | exact Below.refl _ _ | exact below_drewN _ | refine Below.drew ?_ | refine Below.alloc ?_ (by simp) _ | refine Below.setCell ?_ (by simp) _ | refine below_drewN' ?_ _)))) (lit_sl (by first | simp | rfl) rfl rfl (by simp))).mono ?_; rw [HE1.out]; rintro e w2 ⟨rfl, n2, hw2⟩; have HB2 := hid (show Below w.heap.size w w2 from by rw [hw2]; exact below_drewN' (HB1.out.alloc HB1.out.size _) n2); have HT2 := hid (show TabsAt B w2 from by rw [hw2]; exact HT1.out.below (below_drewN' (by (repeat (first | exact Below.refl _ _ | exact below_drewN _ | refine Below.drew ?_ | refine Below.alloc ?_ (by simp) _ | refine Below.setCell ?_ (by simp) _ | refine below_drewN' ?_ _))) n2)); clear hw2)
                | (have _u := HB2; clear _u; go_at_call 41; refine (HC.out _ HT2.out).mono ?_; rintro e w3 ⟨rfl, rfl⟩)
                | (have _u := HB2; clear _u; go_at_call 42; with_reducible refine (HI1.out _).mono ?_; rintro e w4 ⟨rfl, rfl⟩)
                | (have _u := HB2; clear _u; go_at_call 42; with_reducible refine (HI2.out _).mono ?_; rintro e w5 ⟨rfl, rfl⟩))
              go_ret
              exact ⟨by rw [hr.out]; rfl, HB2.out⟩
            | false =>
              have HFS := hid (fun (h : secondB c = true) => HFJ.out (by rw [h]; rfl))
              have HNS := hid (fun (h : secondB c = false) => HNX.out (by rw [h]; rfl))
              have HSC := hid (HSEC.out c)
              clear HFJ HNX
              go_wp2_with (first
                | (go_at_call 40; refine (H0.out _ HTJ.out).mono ?_; rintro e w1 ⟨v1, rfl, ho1, hb1⟩; have HO1 := hid ho1; have HB1 := hid (hbel.out.trans (hb1.mono hbel.out.size)); have HT1 := hid (HTJ.out.below hb1); clear ho1 hb1)
                | (have _u := HB1; clear _u; go_at_call 13; refine (keepInts v1 _ O [c] _ (HO1.out.below (by (repeat (first | exact Below.refl _ _ | exact below_drewN _ | refine Below.drew ?_ | refine Below.alloc ?_ (by simp) _ | refine Below.setCell ?_ (by simp) _ | refine below_drewN' ?_ _)))) (lit_sl (by first | simp | rfl) rfl rfl (by simp))).mono ?_; rw [HE1.out]; rintro e w2 ⟨rfl, n2, hw2⟩; have HB2 := hid (show Below w.heap.size w w2 from by rw [hw2]; exact below_drewN' (HB1.out.alloc HB1.out.size _) n2); have HT2 := hid (show TabsAt B w2 from by rw [hw2]; exact HT1.out.below (below_drewN' (by (repeat (first | exact Below.refl _ _ | exact below_drewN _ | refine Below.drew ?_ | refine Below.alloc ?_ (by simp) _ | refine Below.setCell ?_ (by simp) _ | refine below_drewN' ?_ _))) n2)); clear hw2)
                | (have _u := HB2; clear _u; go_at_call 41; refine (HC.out _ HT2.out).mono ?_; rintro e w3 ⟨rfl, rfl⟩)
                | (have _u := HB2; clear _u; go_at_call 42; with_reducible refine (HI1.out _).mono ?_; rintro e w4 ⟨rfl, rfl⟩)
                | (have _u := HB2; clear _u; go_at_call 42; with_reducible refine (HI2.out _).mono ?_; rintro e w5 ⟨rfl, rfl⟩))
              go_loopw [9] (fun xv wr => ∃ x : Nat, x ≤ m ∧ xv = .int .i64 x ∧ Hid (Below w.heap.size w wr) ∧ Hid (∀ i, i < x → rowQ c (rows.getD i noRg) = false)) (fun xv _ => m - (intOf xv).toNat)
              case atStart => exact ⟨0, by omega, rfl, HB2.out, fun i hi => absurd hi (by omega)⟩
              case round =>
                obtain ⟨x, hx, rfl, hbx, hax⟩ := hrel
                have x0 := (HX.out.below hbx.out HX.out.lt).cell 0
                simp only [List.getElem?_cons_zero] at x0
                by_cases hxm : x < m
                · rcases HR1.out with hcr | ⟨br, or_, rfl, hbr, cr⟩
                  · omega
                  have hbr' := hbr (by omega)
                  obtain ⟨y1, y2, y3⟩ := cr x hxm
                  have y1 := (hbx.out.cell (p := ⟨br, or_ + x * 3, none⟩) hbr').trans y1
                  have y2 := (hbx.out.cell (p := ⟨br, or_ + x * 3 + 1, none⟩) hbr').trans y2
                  have y3 := (hbx.out.cell (p := ⟨br, or_ + x * 3 + 2, none⟩) hbr').trans y3
                  have HHIT := hid (fun (hq : rowQ c (rows.getD x noRg) = true) => HFS.out (by rw [HSC.out]; exact any_hit (by rw [← HM.out]; exact hxm) hq))
                  have HROW := hid (show rowQ c (rows.getD x noRg) = false → ∀ i, i < x + 1 → rowQ c (rows.getD i noRg) = false from fun he i hi => by
                    rcases Nat.lt_or_ge i x with h | h
                    · exact hax.out i h
                    · obtain rfl : i = x := by omega
                      exact he)
                  clear cr hbr
                  generalize rows.getD x noRg = r at y1 y2 y3 HHIT HROW
                  obtain ⟨rf, rt, rv⟩ := r
                  simp only at y1 y2 y3
                  have hrq : rowQ c ⟨rf, rt, rv⟩ = (rv == c && (c != 0 && ((pairS rt c).2 && (pairS rt c).1 == rf))) := rfl
                  rw [hrq] at HHIT HROW
                  clear hrq
                  obtain ⟨p1, hp1⟩ : ∃ p, p = (rv == c) := ⟨_, rfl⟩
                  rw [← hp1] at HHIT HROW
                  replace hp1 := hp1.symm
                  obtain ⟨p2, hp2⟩ : ∃ p, p = (c != 0) := ⟨_, rfl⟩
                  rw [← hp2] at HHIT HROW
                  replace hp2 := hp2.symm
                  have HP := hid (fun w h => refTPair B rt c w h)
                  generalize pairS rt c = Q at HP HHIT HROW
                  obtain ⟨y, ok⟩ := Q
                  dsimp only at HP HHIT HROW
                  have HBA := hid (hbx.out.alloc hbx.out.size (.cells #[.int .i64 rf, .int .i64 rt, .int .i64 rv] 55))
                  have HTA := hid (HT.out.below HBA.out)
                  have HZ := hid (Box.made wr 55 [.int .i64 rf, .int .i64 rt, .int .i64 rv])
                  have z2 := HZ.out.cell 2
                  have z1 := HZ.out.cell 1
                  simp only [List.getElem?_cons_zero, List.getElem?_cons_succ] at z1 z2
                  cases p1 with
                  | false =>
                    have hr := hid (HROW.out rfl)
                    clear HROW HHIT HP
                    go_wp2_with (fail)
                    go_roundw
                    case rel => exact ⟨x + 1, by omega, by go_num, HBA.out, hr.out⟩
                    case measure => simp [intOf]; omega
                  | true =>
                    cases p2 with
                    | false =>
                      have hr := hid (HROW.out rfl)
                      clear HROW HHIT HP
                      go_wp2_with (fail)
                      go_roundw
                      case rel => exact ⟨x + 1, by omega, by go_num, HBA.out, hr.out⟩
                      case measure => simp [intOf]; omega
                    | true =>
                      cases ok with
                      | false =>
                        have hr := hid (HROW.out rfl)
                        clear HROW HHIT
                        go_wp2_with (go_at_call 43; refine (HP.out _ HTA.out).mono ?_; rintro e w6 ⟨rfl, hb6⟩; have HB6 := hid (HBA.out.trans (hb6.mono HBA.out.size)); clear hb6)
                        go_roundw
                        case rel => exact ⟨x + 1, by omega, by go_num, HB6.out, hr.out⟩
                        case measure => simp [intOf]; omega
                      | true =>
                        obtain ⟨p3, hp3⟩ : ∃ p, p = (y == rf) := ⟨_, rfl⟩
                        rw [← hp3] at HHIT HROW
                        replace hp3 := hp3.symm
                        cases p3 with
                        | false =>
                          have hr := hid (HROW.out rfl)
                          clear HROW HHIT
                          go_wp2_with (go_at_call 43; refine (HP.out _ HTA.out).mono ?_; rintro e w6 ⟨rfl, hb6⟩; have HB6 := hid (HBA.out.trans (hb6.mono HBA.out.size)); have z0 := (HZ.out.below hb6 HZ.out.lt).cell 0; simp only [List.getElem?_cons_zero] at z0; clear hb6)
                          go_roundw
                          case rel => exact ⟨x + 1, by omega, by go_num, HB6.out, hr.out⟩
                          case measure => simp [intOf]; omega
                        | true =>
                          have hr := hid (HHIT.out rfl)
                          clear HROW HHIT
                          go_wp2_with (go_at_call 43; refine (HP.out _ HTA.out).mono ?_; rintro e w6 ⟨rfl, hb6⟩; have HB6 := hid (HBA.out.trans (hb6.mono HBA.out.size)); have z0 := (HZ.out.below hb6 HZ.out.lt).cell 0; simp only [List.getElem?_cons_zero] at z0; clear hb6)
                          go_ret
                          exact ⟨by rw [hr.out]; rfl, HB6.out⟩
                · obtain rfl : x = m := by omega
                  have hr := hid (HNS.out (by rw [HSC.out]; exact any_none (fun i hi => hax.out i (by rw [HM.out]; exact hi))))
                  go_wp2_with (fail)
                  go_roundw
                  case rel => exact ⟨j + 1, by omega, by go_num, hbx.out, hr.out⟩
                  case measure => simp [intOf]; omega
        · have hcb : (cc != 0) = true := bne_iff_ne.2 hc0
          have hr := hid (HFJ.out (by rw [show (cc == 0) = false from beq_eq_false_iff_ne.2 hc0]; rfl))
          clear HFJ HNX
          go_wp2_with (first
            | (go_at_call 40; refine (H0.out _ HTJ.out).mono ?_; rintro e w1 ⟨v1, rfl, ho1, hb1⟩; have HO1 := hid ho1; have HB1 := hid (hbel.out.trans (hb1.mono hbel.out.size)); have HT1 := hid (HTJ.out.below hb1); clear ho1 hb1)
            | (have _u := HB1; clear _u; go_at_call 13; refine (keepInts v1 _ O [c] _ (HO1.out.below (by (repeat (first | exact Below.refl _ _ | exact below_drewN _ | refine Below.drew ?_ | refine Below.alloc ?_ (by simp) _ | refine Below.setCell ?_ (by simp) _ | refine below_drewN' ?_ _)))) (lit_sl (by first | simp | rfl) rfl rfl (by simp))).mono ?_; rw [HE1.out]; rintro e w2 ⟨rfl, n2, hw2⟩; have HB2 := hid (show Below w.heap.size w w2 from by rw [hw2]; exact below_drewN' (HB1.out.alloc HB1.out.size _) n2); have HT2 := hid (show TabsAt B w2 from by rw [hw2]; exact HT1.out.below (below_drewN' (by (repeat (first | exact Below.refl _ _ | exact below_drewN _ | refine Below.drew ?_ | refine Below.alloc ?_ (by simp) _ | refine Below.setCell ?_ (by simp) _ | refine below_drewN' ?_ _))) n2)); clear hw2)
            | (have _u := HB2; clear _u; go_at_call 41; refine (HC.out _ HT2.out).mono ?_; rintro e w3 ⟨rfl, rfl⟩))
          go_ret
          exact ⟨by rw [hr.out]; rfl, HB2.out⟩
    · obtain rfl : j = n := by omega
      have hr := hid (HA.out hall.out)
      go_wp2_with (fail)
      go_ret
      exact ⟨by rw [hr.out]; rfl, hbel.out⟩
end Go.Proofs.Ytimbchkoomjhkaa

/-! LawExact11 -/
namespace Go.Proofs.Ytimbchkoomjhkaa
open Go.RowKit

set_option maxHeartbeats 4000000 in
theorem walkExact11 (HA : NApartOk) (HF : NFormOk) (HQ : NQuickOk) (HSM : NSameOk) (va vb : Value) (a b : List Int) (k : Bool) (w : World) (h1 : Sl .i64 w va a) (h2 : Sl .i64 w vb b) (ha : a.all inI = true) (hb : b.all inI = true) :
    Calls Try.prog 3 #[va, vb, .bool k] w fun e w' => e = .returned (.bool true) ∧ Below w.heap.size w w' := by
  have HS1 := hid h1
  have HS2 := hid h2
  have m1 := h1.len
  have m2 := h2.len
  obtain ⟨a1, c1, hv1⟩ := h1.form
  obtain ⟨a2, c2, hv2⟩ := h2.form
  obtain ⟨n1, hn1⟩ : ∃ n, n = a.length := ⟨_, rfl⟩
  obtain ⟨n2, hn2⟩ : ∃ n, n = b.length := ⟨_, rfl⟩
  rw [← hn1] at hv1 m1
  rw [← hn2] at hv2 m2
  subst hv1 hv2
  have HN1 := hid hn1
  have HN2 := hid hn2
  have HW := hid (fun w => lawWakes11 HF HQ HSM w)
  have HB0 := hid (Below.refl w.heap.size w)
  clear hn1 hn2 h1 h2
  by_cases hl1 : n1 ≤ 200
  · by_cases hl2 : n2 ≤ 200
    · have fa : FitsK k a := fits_small ha (by have := HN1.out; omega)
      have fb : FitsK k b := fits_small hb (by have := HN2.out; omega)
      have G2 := hid (fun v w h => keepTwinInts v a w h (by have := HN1.out; omega))
      have G3 := hid (fun B v w ht h => refForm11 k B v a w ht h fa)
      have G4 := hid (fun B v w ht h => refForm11 k B v b w ht h fb)
      have G5 := hid (fun v w h => HA k v a w h fa)
      have G6 := hid (fun B v w ht h => refApart11 k B v a w ht h fa)
      have G8 := hid (fun v w h => HF k v a w h fa)
      have G10 := hid (fun v w h => HQ k v a w h ha (by have := HN1.out; omega))
      have G11 := hid (fun B v w ht h => refQuick11 k B v a w ht h ha)
      have G12 := hid (fun va vb w h1 h2 => HSM k va vb a b w h1 h2 fa fb)
      generalize quickS k a = qa at G10 G11
      generalize apartS k a = A at G5 G6
      generalize formS k a = FA at G3 G8 G12
      generalize formS k b = FB at G4 G12
      generalize he : eqL FA FB = e at G12
      clear HA HF HQ HSM ha hb fa fb
      go_enter Try.func3, Try.ntmps3
      go_wp2_with (first
        | (have _u := HB14; clear _u; go_at_call 20; refine (HW.out _).mono ?_; rintro e w15 ⟨rfl, hb15⟩; have HB15 := hid (HB14.out.trans (hb15.mono HB14.out.size)); clear hb15)
        | (have _u := HB13; clear _u; go_at_call 13; refine (keepInts _ _ a a _ S_i_13.out S_a_13.out).mono ?_; rw [eqL_self]; rintro e w14 ⟨rfl, n14, hw14⟩; have hb14 : Below w13.heap.size w13 w14 := (by rw [hw14]; exact below_drewN n14); clear hw14; have HB14 := hid (HB13.out.trans (hb14.mono HB13.out.size)); clear hb14)
        | (have _u := HB12; clear _u; go_at_call 13; refine (keepInts _ _ FA FB _ S_x_12.out S_y_12.out).mono ?_; rw [he]; rintro e w13 ⟨rfl, n13, hw13⟩; have hb13 : Below w12.heap.size w12 w13 := (by rw [hw13]; exact below_drewN n13); clear hw13; have S_a_13 := hid (S_a_12.out.below hb13); have S_i_13 := hid (S_i_12.out.below hb13); have HB13 := hid (HB12.out.trans (hb13.mono HB12.out.size)); clear hb13)
        | (have _u := HB11; clear _u; go_at_call 19; with_reducible refine (G12.out _ _ _ S_i_11.out S_b_11.out).mono ?_; rintro e w12 ⟨rfl, hb12⟩; have S_a_12 := hid (S_a_11.out.below hb12); have S_i_12 := hid (S_i_11.out.below hb12); have S_x_12 := hid (S_x_11.out.below hb12); have S_y_12 := hid (S_y_11.out.below hb12); have HB12 := hid (HB11.out.trans (hb12.mono HB11.out.size)); clear hb12)
        | (have _u := HB10; clear _u; go_at_call 18; with_reducible refine (G11.out B _ _ S_T_10.out S_a_10.out).mono ?_; rintro e w11 ⟨rfl, hb11⟩; have S_a_11 := hid (S_a_10.out.below hb11); have S_b_11 := hid (S_b_10.out.below hb11); have S_i_11 := hid (S_i_10.out.below hb11); have S_x_11 := hid (S_x_10.out.below hb11); have S_y_11 := hid (S_y_10.out.below hb11); have HB11 := hid (HB10.out.trans (hb11.mono HB10.out.size)); clear hb11)
        | (have _u := HB9; clear _u; go_at_call 17; with_reducible refine (G10.out _ _ S_i_9.out).mono ?_; rintro e w10 ⟨rfl, hb10⟩; have S_a_10 := hid (S_a_9.out.below hb10); have S_b_10 := hid (S_b_9.out.below hb10); have S_T_10 := hid (S_T_9.out.below hb10); have S_i_10 := hid (S_i_9.out.below hb10); have S_x_10 := hid (S_x_9.out.below hb10); have S_y_10 := hid (S_y_9.out.below hb10); have HB10 := hid (HB9.out.trans (hb10.mono HB9.out.size)); clear hb10)
        | (have _u := HB8; clear _u; go_at_call 13; refine (keepInts _ _ FA FA _ S_f_8.out S_x_8.out).mono ?_; rw [eqL_self]; rintro e w9 ⟨rfl, n9, hw9⟩; have hb9 : Below w8.heap.size w8 w9 := (by rw [hw9]; exact below_drewN n9); clear hw9; have S_a_9 := hid (S_a_8.out.below hb9); have S_b_9 := hid (S_b_8.out.below hb9); have S_T_9 := hid (S_T_8.out.below hb9); have S_i_9 := hid (S_i_8.out.below hb9); have S_x_9 := hid (S_x_8.out.below hb9); have S_y_9 := hid (S_y_8.out.below hb9); have HB9 := hid (HB8.out.trans (hb9.mono HB8.out.size)); clear hb9)
        | (have _u := HB7; clear _u; go_at_call 16; with_reducible refine (G8.out _ _ S_i_7.out).mono ?_; rintro e w8 ⟨v8, rfl, ho8, hb8⟩; have S_a_8 := hid (S_a_7.out.below hb8); have S_b_8 := hid (S_b_7.out.below hb8); have S_T_8 := hid (S_T_7.out.below hb8); have S_i_8 := hid (S_i_7.out.below hb8); have S_x_8 := hid (S_x_7.out.below hb8); have S_y_8 := hid (S_y_7.out.below hb8); have S_f_8 := hid ho8.sl; clear ho8; have HB8 := hid (HB7.out.trans (hb8.mono HB7.out.size)); clear hb8)
        | (have _u := HB6; clear _u; go_at_call 13; refine (keepInts _ _ A A _ S_p_6.out S_q_6.out).mono ?_; rw [eqL_self]; rintro e w7 ⟨rfl, n7, hw7⟩; have hb7 : Below w6.heap.size w6 w7 := (by rw [hw7]; exact below_drewN n7); clear hw7; have S_a_7 := hid (S_a_6.out.below hb7); have S_b_7 := hid (S_b_6.out.below hb7); have S_T_7 := hid (S_T_6.out.below hb7); have S_i_7 := hid (S_i_6.out.below hb7); have S_x_7 := hid (S_x_6.out.below hb7); have S_y_7 := hid (S_y_6.out.below hb7); have HB7 := hid (HB6.out.trans (hb7.mono HB6.out.size)); clear hb7)
        | (have _u := HB5; clear _u; go_at_call 15; with_reducible refine (G6.out B _ _ S_T_5.out S_a_5.out).mono ?_; rintro e w6 ⟨v6, rfl, ho6, hb6⟩; have S_a_6 := hid (S_a_5.out.below hb6); have S_b_6 := hid (S_b_5.out.below hb6); have S_T_6 := hid (S_T_5.out.below hb6); have S_i_6 := hid (S_i_5.out.below hb6); have S_x_6 := hid (S_x_5.out.below hb6); have S_y_6 := hid (S_y_5.out.below hb6); have S_p_6 := hid (S_p_5.out.below hb6); have S_q_6 := hid ho6.sl; clear ho6; have HB6 := hid (HB5.out.trans (hb6.mono HB5.out.size)); clear hb6)
        | (have _u := HB4; clear _u; go_at_call 14; with_reducible refine (G5.out _ _ S_i_4.out).mono ?_; rintro e w5 ⟨v5, rfl, ho5, hb5⟩; have S_a_5 := hid (S_a_4.out.below hb5); have S_b_5 := hid (S_b_4.out.below hb5); have S_T_5 := hid (S_T_4.out.below hb5); have S_i_5 := hid (S_i_4.out.below hb5); have S_x_5 := hid (S_x_4.out.below hb5); have S_y_5 := hid (S_y_4.out.below hb5); have S_p_5 := hid ho5.sl; clear ho5; have HB5 := hid (HB4.out.trans (hb5.mono HB4.out.size)); clear hb5)
        | (have _u := HB3; clear _u; go_at_call 12; with_reducible refine (G4.out B _ _ S_T_3.out S_b_3.out).mono ?_; rintro e w4 ⟨v4, rfl, ho4, hb4⟩; have S_a_4 := hid (S_a_3.out.below hb4); have S_b_4 := hid (S_b_3.out.below hb4); have S_T_4 := hid (S_T_3.out.below hb4); have S_i_4 := hid (S_i_3.out.below hb4); have S_x_4 := hid (S_x_3.out.below hb4); have S_y_4 := hid ho4.sl; clear ho4; have HB4 := hid (HB3.out.trans (hb4.mono HB3.out.size)); clear hb4)
        | (have _u := HB2; clear _u; go_at_call 12; with_reducible refine (G3.out B _ _ S_T_2.out S_a_2.out).mono ?_; rintro e w3 ⟨v3, rfl, ho3, hb3⟩; have S_a_3 := hid (S_a_2.out.below hb3); have S_b_3 := hid (S_b_2.out.below hb3); have S_T_3 := hid (S_T_2.out.below hb3); have S_i_3 := hid (S_i_2.out.below hb3); have S_x_3 := hid ho3.sl; clear ho3; have HB3 := hid (HB2.out.trans (hb3.mono HB2.out.size)); clear hb3)
        | (have _u := HB1; clear _u; go_at_call 11; with_reducible refine (G2.out _ _ S_a_1.out).mono ?_; rintro e w2 ⟨v2, rfl, ho2, hb2⟩; have S_a_2 := hid (S_a_1.out.below hb2); have S_b_2 := hid (S_b_1.out.below hb2); have S_T_2 := hid (S_T_1.out.below hb2); have S_i_2 := hid ho2.sl; clear ho2; have HB2 := hid (HB1.out.trans (hb2.mono HB1.out.size)); clear hb2)
        | (have _u := HB0; clear _u; go_at_call 10; refine (refAll6 _).mono ?_; rintro e w1 ⟨B, rfl, ht1, hb1⟩; have S_a_1 := hid (HS1.out.below hb1); have S_b_1 := hid (HS2.out.below hb1); have S_T_1 := hid ht1; clear ht1; have HB1 := hid (HB0.out.trans (hb1.mono HB0.out.size)); clear hb1))
      go_ret
      exact ⟨by simp, HB15.out⟩
    · have hl : 200 < n2 := by omega
      clear HA HF HQ HSM hl2
      go_enter Try.func3, Try.ntmps3
      go_wp2
      go_ret
      exact ⟨rfl, Below.refl _ _⟩
  · have hl : 200 < n1 := by omega
    clear HA HF HQ HSM hl1
    go_enter Try.func3, Try.ntmps3
    go_wp2
    go_ret
    exact ⟨rfl, Below.refl _ _⟩
end Go.Proofs.Ytimbchkoomjhkaa
