/- Several texts in one: LawPlain18. -/
import Derived.Test.YtobicndpkojgiaaPk39
/-! LawPlain18 -/
namespace Go.Proofs.Ytobicndpkojgiaa
open Go.RowKit

/-- what TeletexPlain keeps -/
def okN (n : Nat) : Bool := n == 32 || ((decide (48 ≤ n) && decide (n ≤ 57)) || ((decide (65 ≤ n) && decide (n ≤ 91)) || (n == 93 || (n == 95 || (decide (97 ≤ n) && decide (n ≤ 122))))))
def badN (n : Nat) : Bool := (decide (33 ≤ n) && decide (n ≤ 47)) || ((decide (58 ≤ n) && decide (n ≤ 64)) || (n == 92 || (n == 94 || (n == 96 || decide (122 < n)))))
def ascB (n : Nat) : Bool := decide (32 ≤ n ∧ n < 127) || (n == 8 || (n == 10 || (n == 12 || n == 13)))
theorem ok_or_bad : ((List.range 123).all fun n => decide (n < 32) || (okN n || badN n)) = true := by decide +kernel
theorem ok_one : ((List.range 128).all fun n => !okN n || decide (oneP 102 (n : Int) = some ([(n : Int)], 102))) = true := by decide +kernel
theorem ok_put : ∀ s : List Int, (∀ c ∈ s, ∃ n : Nat, n < 128 ∧ okN n = true ∧ c = (n : Int)) → putF 102 s = .inl s
  | [], _ => rfl
  | c :: r, h => by
    obtain ⟨n, hn, hp, rfl⟩ := h c (by simp)
    have h1 := List.all_eq_true.1 ok_one n (List.mem_range.2 hn)
    rw [hp] at h1
    simp only [Bool.not_true, Bool.false_or, decide_eq_true_eq] at h1
    rw [putF, h1]
    simp only
    rw [ok_put r fun x hx => h x (List.mem_cons_of_mem _ hx)]
    rfl
theorem asc_has {n : Nat} (h : n < 128) : has18 (n : Int) = ascB n := by
  have := List.all_eq_true.1 ascii_has n (List.mem_range.2 h)
  simpa [ascB] using this
def OkS (s : List Int) : Prop := ∀ c ∈ s, ∃ n : Nat, n < 128 ∧ okN n = true ∧ c = (n : Int)
theorem OkS.snoc {s : List Int} {n : Nat} (h : OkS s) (hn : n < 128) (ho : okN n = true) : OkS (s ++ [(n : Int)]) := fun c hc => by
  rcases List.mem_append.1 hc with hc | hc
  · exact h c hc
  · rw [List.mem_singleton.1 hc]
    exact ⟨n, hn, ho, rfl⟩
/-- the lists under way -/
def PlL (W : World) (N : Nat) (sv wv iv : Value) (wr : World) : Prop := ∃ (k : Nat) (xs : List Int) (sa ta : Option Addr) (sc tc : Nat), k ≤ N ∧ xs.length = k ∧ OkS xs ∧ iv = .int .i64 k ∧ sv = .slice sa k sc ∧ wv = .slice ta k tc ∧ Own .i64 3 W.heap.size wr (.slice sa k sc) xs ∧ Own .u8 5 W.heap.size wr (.slice ta k tc) xs ∧ Below W.heap.size W wr

set_option maxRecDepth 20000 in
set_option maxHeartbeats 8000000 in
theorem walkPlain18 (HR : TReadOk) (HP : TPutOk) (HH : THasOk) (v : Value) (l : List Int) (w : World) (h : Sl .i64 w v l) :
    Calls Try.prog 8 #[v] w fun e w' => e = .returned (.bool true) ∧ Below w.heap.size w w' := by
  have HW := hid (fun w => lawWakes18 HR HP HH w)
  have HS := hid h
  have ml := h.len
  obtain ⟨a0, c0, hv⟩ := h.form
  obtain ⟨N, hn⟩ : ∃ n, n = l.length := ⟨_, rfl⟩
  rw [← hn] at hv ml
  subst hv
  have HN := hid hn
  clear hn h
  by_cases hl : N ≤ 100
  · go_enter Try.func8, Try.ntmps8
    go_wp2_with (fail)
    go_loopw [3, 4, 5] (fun sv wv iv wr => PlL w N sv wv iv wr) (fun _ _ iv _ => N - (intOf iv).toNat)
    case atStart => exact ⟨0, [], none, none, 0, 0, by omega, rfl, (fun _ h => by cases h), rfl, rfl, rfl, Own.nil _ _ _ _, Own.nil _ _ _ _, Below.refl _ _⟩
    case round =>
      obtain ⟨k, xs, sa, ta, sc, tc, hk, hxl, hok, rfl, rfl, rfl, hos, hot, hbel⟩ := hrel
      replace hos := hid hos
      replace hot := hid hot
      replace hbel := hid hbel
      replace hok := hid hok
      have HXL := hid hxl
      clear hxl
      by_cases hlt : k < N
      · obtain ⟨a', c', hv', -, -, hh⟩ := HS.out
        injection hv' with e1 e2 e3
        subst e1 e3
        rcases hh with hh | ⟨b1, o1, rfl, hb1, c1⟩
        · have := HS.out.cap_ge18
          have := HN.out
          omega
        have hb1 := hb1 (by have := HN.out; omega)
        have d1 := (hbel.out.cell (p := ⟨b1, o1 + k, none⟩) hb1).trans (c1 k (by have := HN.out; omega))
        generalize l.getD k 0 = x at d1
        clear c1 e2
        obtain ⟨K, hK, hK1⟩ := ixn18 x 91 (by decide) (by decide)
        obtain ⟨D, hD⟩ : ∃ D : Nat, D = 32 + K := ⟨_, rfl⟩
        have wd : IntKind.i64.wrap (32 + (K : Int)) = (D : Int) := by rw [hD]; simp only [IntKind.wrap, IntKind.bits, IntKind.signed]; simp; omega
        have HD1 := hid (show 32 ≤ D ∧ D ≤ 122 by omega)
        clear hD
        go_upto_region 9 with (fail)
        clear wd hK hK1 d1 hb1
        obtain ⟨q1, hq1⟩ : ∃ q, q = (D == 92) := ⟨_, rfl⟩
        obtain ⟨q2, hq2⟩ : ∃ q, q = (D == 94) := ⟨_, rfl⟩
        obtain ⟨q3, hq3⟩ : ∃ q, q = (D == 96) := ⟨_, rfl⟩
        have r1 : ((D : Int) == 92) = q1 := by rw [hq1, Bool.eq_iff_iff]; simp; omega
        have r2 : ((D : Int) == 94) = q2 := by rw [hq2, Bool.eq_iff_iff]; simp; omega
        have r3 : ((D : Int) == 96) = q3 := by rw [hq3, Bool.eq_iff_iff]; simp; omega
        have HI := hid (show ((q1 = true) = (D = 92)) ∧ ((q2 = true) = (D = 94)) ∧ ((q3 = true) = (D = 96)) from ⟨by rw [hq1]; simp, by rw [hq2]; simp, by rw [hq3]; simp⟩)
        clear hq1 hq2 hq3
        go_cut [57] from 28 to 57 (fun bv wx => bv = .bool (badN D) ∧ wr = wx)
        case first =>
          go_wp2_with (fail)
          all_goals go_meet
          all_goals (refine ⟨?_, rfl⟩; congr 1; symm; unfold badN; obtain ⟨i1, i2, i3⟩ := HI.out; clear r1 r2 r3; simp only [i1, i2, i3] at *; first | (simp; omega) | (rw [Bool.eq_iff_iff]; simp; omega) | (rw [i5]; simp only [Bool.not_eq_false', beq_iff_eq]; rw [Bool.eq_iff_iff]; simp; omega))
        case rest =>
          obtain ⟨rfl, rfl⟩ := hcut
          clear r1 r2 r3 HI
          cases hb : badN D with
          | true =>
            have HM := hid (show 97 < 128 ∧ okN 97 = true from by decide)
            clear hb HD1
            go_wp2_with (first
              | (have _u := HB5; clear _u; at_builtin; go_loud (refine wpList_app _ rfl _ _ 23 rfl .u8 w.heap.size 5 1 Try.underlying23 Try.infoU8 _ xs [((97 : Nat) : Int)] rfl (HT5.out.alloc _) _ rfl (lit_sl (by first | (simp; done) | rfl) (by first | (simp; done) | (simp; omega) | rfl) rfl (by simp)) (by have := HXL.out; unfold maxLen; simp only [List.length_cons, List.length_nil]; omega) (by have := HXL.out; simp only [List.length_cons, List.length_nil]; omega) (by have := HB5.out.size; simp; omega) ?_); intro v6 w6 ho6 hg6 hb6 hn6; have HT6 := hid ho6; have HO6 := hid ((HT5.out.alloc _).leavesN (HO5.out.alloc _) (by decide) hg6); have HB6 := hid ((HB5.out.alloc HB5.out.size _).trans hb6); clear ho6 hb6 hg6 hn6)
              | (at_builtin; go_loud (refine wpList_app _ rfl _ _ 22 rfl .i64 w.heap.size 3 8 Try.underlying22 Try.infoI64 _ xs [((97 : Nat) : Int)] rfl (hos.out.alloc _) _ rfl (lit_sl (by first | (simp; done) | rfl) (by first | (simp; done) | rfl) rfl (by simp)) (by have := HXL.out; unfold maxLen; simp only [List.length_cons, List.length_nil]; omega) (by have := HXL.out; simp only [List.length_cons, List.length_nil]; omega) (by have := hbel.out.size; simp; omega) ?_); intro v5 w5 ho5 hg5 hb5 hn5; have HO5 := hid ho5; have HT5 := hid ((hos.out.alloc _).leavesN (hot.out.alloc _) (by decide) hg5); have HB5 := hid ((hbel.out.alloc hbel.out.size _).trans hb5); clear ho5 hg5 hb5 hn5))
            obtain ⟨b5, c5, hv5⟩ := HO6.out.sl.form
            obtain ⟨b6, c6, hv6⟩ := HT6.out.sl.form
            rw [List.length_append, HXL.out] at hv5 hv6
            simp only [List.length_cons, List.length_nil, Nat.zero_add] at hv5 hv6
            subst hv5 hv6
            go_roundw
            case rel => exact ⟨k + 1, xs ++ [((97 : Nat) : Int)], b5, b6, c5, c6, by omega, by rw [List.length_append, HXL.out]; rfl, hok.out.snoc HM.out.1 HM.out.2, by go_num, rfl, rfl, HO6.out, HT6.out, HB6.out⟩
            case measure => simp [intOf]; omega
          | false =>
            have w8 : IntKind.u8.wrap (D : Int) = (D : Int) := by have := HD1.out; simp only [IntKind.wrap, IntKind.bits, IntKind.signed]; simp; omega
            have HM := hid (show D < 128 ∧ okN D = true from by
              have h1 := List.all_eq_true.1 ok_or_bad D (List.mem_range.2 (by have := HD1.out; omega))
              rw [hb, Bool.or_false, Bool.or_eq_true] at h1
              have := HD1.out
              rcases h1 with h1 | h1
              · have := of_decide_eq_true h1; omega
              · exact ⟨by omega, h1⟩)
            clear hb HD1
            go_wp2_with (first
              | (have _u := HB5; clear _u; at_builtin; go_loud (refine wpList_app _ rfl _ _ 23 rfl .u8 w.heap.size 5 1 Try.underlying23 Try.infoU8 _ xs [((D : Nat) : Int)] rfl (HT5.out.alloc _) _ rfl (lit_sl (by first | (simp; done) | rfl) (by first | (simp; done) | (simp; omega) | rfl) rfl (by simp)) (by have := HXL.out; unfold maxLen; simp only [List.length_cons, List.length_nil]; omega) (by have := HXL.out; simp only [List.length_cons, List.length_nil]; omega) (by have := HB5.out.size; simp; omega) ?_); intro v6 w6 ho6 hg6 hb6 hn6; have HT6 := hid ho6; have HO6 := hid ((HT5.out.alloc _).leavesN (HO5.out.alloc _) (by decide) hg6); have HB6 := hid ((HB5.out.alloc HB5.out.size _).trans hb6); clear ho6 hb6 hg6 hn6)
              | (at_builtin; go_loud (refine wpList_app _ rfl _ _ 22 rfl .i64 w.heap.size 3 8 Try.underlying22 Try.infoI64 _ xs [((D : Nat) : Int)] rfl (hos.out.alloc _) _ rfl (lit_sl (by first | (simp; done) | rfl) (by first | (simp; done) | rfl) rfl (by simp)) (by have := HXL.out; unfold maxLen; simp only [List.length_cons, List.length_nil]; omega) (by have := HXL.out; simp only [List.length_cons, List.length_nil]; omega) (by have := hbel.out.size; simp; omega) ?_); intro v5 w5 ho5 hg5 hb5 hn5; have HO5 := hid ho5; have HT5 := hid ((hos.out.alloc _).leavesN (hot.out.alloc _) (by decide) hg5); have HB5 := hid ((hbel.out.alloc hbel.out.size _).trans hb5); clear ho5 hg5 hb5 hn5))
            obtain ⟨b5, c5, hv5⟩ := HO6.out.sl.form
            obtain ⟨b6, c6, hv6⟩ := HT6.out.sl.form
            rw [List.length_append, HXL.out] at hv5 hv6
            simp only [List.length_cons, List.length_nil, Nat.zero_add] at hv5 hv6
            subst hv5 hv6
            go_roundw
            case rel => exact ⟨k + 1, xs ++ [((D : Nat) : Int)], b5, b6, c5, c6, by omega, by rw [List.length_append, HXL.out]; rfl, hok.out.snoc HM.out.1 HM.out.2, by go_num, rfl, rfl, HO6.out, HT6.out, HB6.out⟩
            case measure => simp [intOf]; omega
      · obtain rfl : k = N := by omega
        have hin : xs.all inI = true := List.all_eq_true.2 fun c hc => by
          obtain ⟨n, h1, -, rfl⟩ := hok.out c hc
          unfold inI
          rw [decide_eq_true_iff]
          omega
        have GP := hid (fun v w h => HP v xs w h hin (by have := HXL.out; omega))
        rw [show put18 xs = .inl xs from ok_put xs hok.out] at GP
        simp only [outAt, outE, outL] at GP
        have HHM := hid (fun (m : Nat) (hm : m < 128) (w : World) => (show Calls Try.prog 11 #[.int .i64 (m : Int)] w fun e w' => e = .returned (.bool (ascB m)) ∧ Below w.heap.size w w' from by
          have h1 := HH (m : Int) w (by unfold inI; rw [decide_eq_true_iff]; omega)
          rwa [asc_has hm] at h1))
        clear hin hok HR HP HH
        go_wp2_with (go_at_call 10; refine (GP.out _ _ hos.out.sl).mono ?_; rintro e w2 ⟨v2, rfl, ho2, hb2⟩; have HS2 := hid ho2; have HT2 := hid (hot.out.sl.below hb2); have HB2 := hid (hbel.out.trans (hb2.mono hbel.out.size)); obtain ⟨a2, c2, hv2⟩ := ho2.form; rw [HXL.out] at hv2; subst hv2; clear ho2 hb2)
        clear hos hot hbel GP
        go_loopw [10] (fun iv wr => ∃ m : Nat, m ≤ 128 ∧ iv = .int .i64 m ∧ Hid (Below w2.heap.size w2 wr)) (fun iv _ => 128 - (intOf iv).toNat)
        case atStart => exact ⟨0, by omega, rfl, Below.refl _ _⟩
        case round =>
          obtain ⟨m, hm, rfl, hbel⟩ := hrel
          by_cases hlt2 : m < 128
          · have HC := hid (HHM.out m hlt2)
            obtain ⟨q1, hq1⟩ : ∃ q, q = (m == 8) := ⟨_, rfl⟩
            obtain ⟨q2, hq2⟩ : ∃ q, q = (m == 10) := ⟨_, rfl⟩
            obtain ⟨q3, hq3⟩ : ∃ q, q = (m == 12) := ⟨_, rfl⟩
            obtain ⟨q4, hq4⟩ : ∃ q, q = (m == 13) := ⟨_, rfl⟩
            have r1 : ((m : Int) == 8) = q1 := by rw [hq1, Bool.eq_iff_iff]; simp; omega
            have r2 : ((m : Int) == 10) = q2 := by rw [hq2, Bool.eq_iff_iff]; simp; omega
            have r3 : ((m : Int) == 12) = q3 := by rw [hq3, Bool.eq_iff_iff]; simp; omega
            have r4 : ((m : Int) == 13) = q4 := by rw [hq4, Bool.eq_iff_iff]; simp; omega
            have HI := hid (show ((q1 = true) = (m = 8)) ∧ ((q2 = true) = (m = 10)) ∧ ((q3 = true) = (m = 12)) ∧ ((q4 = true) = (m = 13)) ∧ q4 = (m == 13) from ⟨by rw [hq1]; simp, by rw [hq2]; simp, by rw [hq3]; simp, by rw [hq4]; simp, hq4⟩)
            clear hq1 hq2 hq3 hq4
            generalize hAB : ascB m = ab at HC
            have HAB := hid hAB
            clear hAB
            have hmt : decide ((m : Int) < 128) = true := decide_eq_true (by omega)
            go_upto_region 16 with (fail)
            go_cut [101] from 77 to 101 (fun bv wx => bv = .bool false ∧ Hid (Below wr.heap.size wr wx))
            case first =>
              go_wp2_with (go_at_call 11; refine (HC.out wr).mono ?_; rintro e w3 ⟨rfl, hb3⟩; have HB3 := hid hb3; clear hb3)
              all_goals go_meet
              all_goals (refine ⟨?_, HB3⟩; congr 1; have hab := HAB.out; unfold ascB at hab; obtain ⟨i1, i2, i3, i4, i5⟩ := HI.out; clear r1 r2 r3 r4 HI HAB HC; simp only [i1, i2, i3, i4] at *; subst hab; first | (simp; omega) | (rw [Bool.eq_iff_iff]; simp; omega) | (rw [i5]; simp only [Bool.not_eq_false', beq_iff_eq]; rw [Bool.eq_iff_iff]; simp; omega))
            case rest =>
              obtain ⟨rfl, hb⟩ := hcut
              clear r1 r2 r3 r4 HI HAB HC
              go_wp2_with (fail)
              go_roundw
              case rel => exact ⟨m + 1, by omega, by go_num, hbel.out.trans (hb.out.mono hbel.out.size)⟩
              case measure => simp [intOf]; omega
          · obtain rfl : m = 128 := by omega
            go_wp2_with (first
              | (have _u := HB6; clear _u; go_at_call 12; refine (HW.out _).mono ?_; rintro e w7 ⟨rfl, hb7⟩; have HB7 := hid (HB6.out.trans (hb7.mono HB6.out.size)); clear hb7)
              | (go_at_call 15; refine (keepBytes _ _ xs xs _ (HS2.out.below hbel.out) (HT2.out.below hbel.out)).mono ?_; rw [eqL_self]; rintro e w6 ⟨rfl, n6, hw6⟩; have HB6 := hid (show Below w.heap.size w w6 from by rw [hw6]; exact below_drewN' (HB2.out.trans (hbel.out.mono HB2.out.size)) n6); clear hw6))
            go_ret
            exact ⟨rfl, HB7.out⟩
  · have hf : 100 < N := by omega
    clear hl HR HP HH
    go_enter Try.func8, Try.ntmps8
    go_wp2
    go_ret
    exact ⟨rfl, Below.refl _ _⟩
end Go.Proofs.Ytobicndpkojgiaa
