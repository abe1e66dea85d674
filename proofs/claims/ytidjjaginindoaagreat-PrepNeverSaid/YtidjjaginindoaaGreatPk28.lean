/- Several texts in one: Ref9b. -/
import Derived.Test.YtidjjaginindoaaGreatPk7
import Derived.Test.YtidjjaginindoaaGreatPk11
import Derived.Test.YtidjjaginindoaaGreatPk12
import Derived.Test.YtidjjaginindoaaGreatPk3
import Derived.BigRegion
/-! Ref9b -/
namespace Go.Proofs.YtidjjaginindoaaGreat
open Go.RowKit

theorem refPutNil9 (B : Nat) (v : Value) (w : World) (hs : Sl .i64 w v []) : Calls Tryz.prog 88 #[.pointer (some ⟨B, 0, none⟩), v] w fun e w' => ∃ x, e = .returned x ∧ Own .i64 3 w.heap.size w' x [] ∧ Below w.heap.size w w' := by
  have HS := hid hs
  clear hs
  go_enter Tryz.func88, Tryz.ntmps88
  go_wp2_with (go_at_call 9; refine (keepTwinInts v [] _ HS.out (by simp)).mono ?_; rintro e w1 ⟨v1, rfl, ho1, hb1⟩; have HO1 := hid ho1; have HB1 := hid hb1; obtain ⟨a1, c1, hv1⟩ := ho1.sl.form; subst hv1; simp only [List.length_nil]; clear ho1 hb1)
  go_loopw [6] (fun iv wr => iv = .int .i64 1 ∧ w1 = wr) (fun iv _ => 1)
  case atStart => exact ⟨rfl, rfl⟩
  case round =>
    obtain ⟨rfl, rfl⟩ := hrel
    go_wp2_with (fail)
    go_ret
    exact ⟨_, rfl, HO1.out, HB1.out⟩
set_option maxHeartbeats 8000000 in
theorem refPut9 (B : Nat) (v : Value) (s : List Int) (w : World) (h : TabsAt B w) (hs : Sl .i64 w v s) (hl : s.length ≤ 1000000) : Calls Tryz.prog 88 #[.pointer (some ⟨B, 0, none⟩), v] w fun e w' => ∃ x, e = .returned x ∧ Own .i64 3 w.heap.size w' x (putO classS s) ∧ Below w.heap.size w w' := by
  by_cases hne : s = []
  · subst hne
    exact refPutNil9 B v w hs
  have HT := hid h
  have HS := hid hs
  have HL := hid hl
  have hn0 : 0 < s.length := List.length_pos_iff.2 hne
  clear h hs hne
  go_enter Tryz.func88, Tryz.ntmps88
  go_wp2_with (go_at_call 9; refine (keepTwinInts v s _ HS.out (by have := HL.out; omega)).mono ?_; rintro e w1 ⟨v1, rfl, ho1, hb1⟩; have HB1 := hid hb1; rcases ho1.2 with ⟨_, h0⟩ | ⟨g, cap, cur, rfl, _⟩; · omega)
  obtain ⟨rest, hr, hg, -, hcap, hcm⟩ := RowI.of_own ho1
  obtain ⟨n, hn⟩ : ∃ n, n = s.length := ⟨_, rfl⟩
  rw [← hn] at hl hn0 hcap ⊢
  have HR := hid hr
  have HN := hid hn
  have HC := hid hcap
  clear ho1 hb1 hr hn hcap
  go_loopw [6] (fun iv wr => ∃ i : Nat, 1 ≤ i ∧ i ≤ n ∧ iv = .int .i64 i ∧ Hid (RowI g rest w1 (partO classS s i) wr)) (fun iv _ => n - (intOf iv).toNat)
  case atStart => exact ⟨1, by omega, by omega, rfl, by rw [part_one]; exact HR.out⟩
  case round =>
    obtain ⟨i, hi1, hi, rfl, hrow⟩ := hrel
    by_cases hlt : i < n
    · obtain ⟨A, hA⟩ : ∃ A, A = putFrom classS (s.take i) [] := ⟨_, rfl⟩
      obtain ⟨x, hx⟩ : ∃ x, x = s.getD i 0 := ⟨_, rfl⟩
      obtain ⟨T, hT⟩ : ∃ T, T = s.drop (i + 1) := ⟨_, rfl⟩
      have hAl : A.length = i := by rw [hA]; exact acc_len s (by have := HN.out; omega)
      have hTl : T.length + (i + 1) = n := by rw [hT, List.length_drop]; have := HN.out; omega
      have hm0 := hrow.out
      rw [part_mid s (by have := HN.out; omega), ← hA, ← hx, ← hT] at hm0
      have HM0 := hid hm0
      have HEND := hid (fun (m : Nat) (h1 : m ≤ A.length) (h2 : ∀ y ∈ A.take m, classS x ≠ 0 ∧ classS x < classS y) (h3 : m = A.length ∨ ¬ (classS x ≠ 0 ∧ classS x < classS (A.getD m 0))) => (show mid A x m T = partO classS s (i + 1) from by
        rw [part_next s (by have := HN.out; omega), ← hA, ← hx, ← hT]
        exact mid_end h1 h2 h3))
      clear hm0 hA hx hT hrow
      have HX := hid (fun w h => refTClass B x w h)
      obtain ⟨cx, hcx⟩ : ∃ cx, cx = classS x := ⟨_, rfl⟩
      rw [← hcx] at HX HEND
      have HCX := hid hcx
      clear hcx
      go_wp2_with (fail)
      go_loopw [7] (fun kv wr => ∃ k m : Nat, k + m = i ∧ kv = .int .i64 k ∧ Hid (RowI g rest w1 (mid A x m T) wr) ∧ Hid (∀ y ∈ A.take m, cx ≠ 0 ∧ cx < classS y)) (fun kv _ => (intOf kv).toNat)
      case atStart => exact ⟨i, 0, by omega, rfl, HM0.out, by show ∀ y ∈ A.take 0, _; simp⟩
      case round =>
        obtain ⟨k, m, hkm, rfl, hrow, hps⟩ := hrel
        have HTR := hid (HT.out.below (hrow.out.behind HB1.out hg HB1.out.size))
        by_cases hk0 : k = 0
        · subst hk0
          have hnx := hid (HEND.out m (by omega) hps.out (.inl (by omega)))
          go_wp2_with (fail)
          go_quiet (fail)
          go_wp2_with (fail)
          go_roundw
          case rel => exact ⟨i + 1, by omega, by omega, by go_num, by rw [← hnx.out]; exact hrow.out.drewN _⟩
          case measure => simp [intOf]; omega
        · obtain ⟨j, hj⟩ : ∃ j, k = j + 1 := ⟨k - 1, by omega⟩
          have hml : (mid A x m T).length = n := by rw [mid_len (by omega)]; omega
          have c1 := hrow.out.at (i := k) (by rw [hml]; omega)
          have c0 := hrow.out.at (i := j) (by rw [hml]; omega)
          have f1 := hrow.out.ice k
          have f0 := hrow.out.ice j
          rw [mid_at (by omega)] at c1
          rw [mid_prev (by omega)] at c0
          have HE2 := hid (fun h => HEND.out m (by omega) hps.out (.inr h))
          have HPN := hid (fun (h : cx ≠ 0 ∧ cx < classS (A.getD m 0)) => (show ∀ y ∈ A.take (m + 1), cx ≠ 0 ∧ cx < classS y from by
            rw [HCX.out] at h ⊢
            exact pass_next (by omega) (by rw [← HCX.out]; exact hps.out) h))
          have HSW := hid (mid_swap (A := A) (T := T) (x := x) (m := m) (k := j) (by omega))
          rw [← hj] at HSW
          have HRW := hid hrow.out
          generalize hyd : A.getD m 0 = y at c0 HE2 HPN HSW
          have HY := hid (fun w h => refTClass B y w h)
          generalize classS y = cy at HY HE2 HPN
          have l1 : k < n := by omega
          have l0 : j < n := by omega
          have n1 : k ≠ j := by omega
          have n2 : j ≠ k := by omega
          have hd0 : decide (0 < k) = true := by rw [decide_eq_true_iff]; omega
          have ej : (k : Int) - 1 = (j : Int) := by omega
          have wj : IntKind.i64.wrap (j : Int) = (j : Int) := by rw [IntKind.wrap_i64]; have := HL.out; have := HN.out; omega
          have HJ := hid hj
          clear hrow hyd hj
          by_cases hx0 : cx = 0
          · have hnx := hid (HE2.out (fun h => h.1 hx0))
            go_wp2_with (fail)
            go_quiet (first | (go_at_call 46; exact quiet_same0 (HX.out _ (HTR.out.below (below_drewN _)))))
            go_wp2_with (fail)
            go_roundw
            case rel => exact ⟨i + 1, by omega, by omega, by go_num, by rw [← hnx.out]; exact HRW.out.drewN _⟩
            case measure => simp [intOf]; omega
          · have hb0 : (cx == 0) = false := by rw [beq_eq_false_iff_ne]; exact hx0
            by_cases hxy : cx < cy
            · have hq := hid (HPN.out ⟨hx0, hxy⟩)
              go_wp2_with (fail)
              go_quiet (first
                | (go_at_call 46; with_reducible exact quiet_same0 (HX.out _ (HTR.out.below (below_drewN _))))
                | (go_at_call 46; with_reducible exact quiet_same0 (HY.out _ (HTR.out.below (below_drewN _)))))
              go_wp2_with (fail)
              go_big_region
              all_goals go_wp2
              go_roundw
              case rel => exact ⟨j, m + 1, by have := HJ.out; omega, by go_num, by show RowI _ _ _ _ _; rw [← HSW.out]; exact RowI.swap (HRW.out.drewN _) (by rw [hml]; exact l1) (by rw [hml]; exact l0) y x, hq.out⟩
              case measure => simp [intOf]; have := HJ.out; omega
            · have hnx := hid (HE2.out (fun h => hxy h.2))
              go_wp2_with (fail)
              go_quiet (first
                | (go_at_call 46; with_reducible exact quiet_same0 (HX.out _ (HTR.out.below (below_drewN _))))
                | (go_at_call 46; with_reducible exact quiet_same0 (HY.out _ (HTR.out.below (below_drewN _)))))
              go_wp2_with (fail)
              go_roundw
              case rel => exact ⟨i + 1, by omega, by omega, by go_num, by rw [← hnx.out]; exact HRW.out.drewN _⟩
              case measure => simp [intOf]; omega
    · obtain rfl : i = n := by omega
      have hall := part_all (cl := classS) s (i := i) (by have := HN.out; omega)
      go_wp2_with (fail)
      go_ret
      refine ⟨_, rfl, ?_, hrow.out.behind HB1.out hg HB1.out.size⟩
      rw [← hall]
      have e := part_len (cl := classS) s i
      have := hrow.out.own (base := w.heap.size) (cap := cap) hg (by rw [e, ← HN.out]; exact HC.out) hcm
      rw [e, ← HN.out] at this
      exact this
end Go.Proofs.YtidjjaginindoaaGreat
