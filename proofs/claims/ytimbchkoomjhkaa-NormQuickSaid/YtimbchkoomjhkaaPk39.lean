/- Several texts in one: OrdMid, Ref9b, Ref11a. -/
import Derived.Test.YtimbchkoomjhkaaPk16
import Derived.Test.YtimbchkoomjhkaaPk20
import Derived.Test.YtimbchkoomjhkaaPk13
import Derived.Test.YtimbchkoomjhkaaPk12
import Derived.BigRegion
import Derived.Test.YtimbchkoomjhkaaPk18
import Derived.Test.YtimbchkoomjhkaaPk38
import Derived.Test.YtimbchkoomjhkaaPk15
/-! OrdMid -/
namespace Go.Proofs.Ytimbchkoomjhkaa

/-- A (the last one first) lies there, x has come past m of them -/
def mid (A : List Int) (x : Int) (m : Nat) (T : List Int) : List Int := (A.drop m).reverse ++ x :: ((A.take m).reverse ++ T)
theorem mid_len {A T : List Int} {x : Int} {m : Nat} (h : m ≤ A.length) : (mid A x m T).length = A.length + 1 + T.length := by
  unfold mid
  simp only [List.length_append, List.length_cons, List.length_reverse, List.length_drop, List.length_take]
  omega
theorem mid_zero (A T : List Int) (x : Int) : mid A x 0 T = A.reverse ++ x :: T := by
  unfold mid
  simp
theorem mid_at {A T : List Int} {x : Int} {m k : Nat} (hk : A.length = k + m) : (mid A x m T).getD k 0 = x := by
  have hl : k = (A.drop m).reverse.length := by rw [List.length_reverse, List.length_drop]; omega
  unfold mid
  rw [hl, List.getD_eq_getElem?_getD]
  simp
theorem mid_split {A T : List Int} {x : Int} {m k : Nat} (hk : A.length = k + 1 + m) : mid A x m T = (A.drop (m + 1)).reverse ++ (A.getD m 0) :: x :: ((A.take m).reverse ++ T) := by
  have hm : m < A.length := by omega
  unfold mid
  have e : A.getD m 0 = A[m] := by rw [List.getD_eq_getElem?_getD, List.getElem?_eq_getElem hm]; rfl
  rw [e, List.drop_eq_getElem_cons hm, List.reverse_cons, List.append_assoc]
  rfl
theorem mid_prev {A T : List Int} {x : Int} {m k : Nat} (hk : A.length = k + 1 + m) : (mid A x m T).getD k 0 = A.getD m 0 := by
  have hl : k = (A.drop (m + 1)).reverse.length := by rw [List.length_reverse, List.length_drop]; omega
  rw [mid_split hk]
  conv => lhs; rw [hl]
  rw [List.getD_eq_getElem?_getD]
  simp
theorem mid_next {A T : List Int} {x : Int} {m k : Nat} (hk : A.length = k + 1 + m) : mid A x (m + 1) T = (A.drop (m + 1)).reverse ++ x :: (A.getD m 0) :: ((A.take m).reverse ++ T) := by
  have hm : m < A.length := by omega
  unfold mid
  have e : A.getD m 0 = A[m] := by rw [List.getD_eq_getElem?_getD, List.getElem?_eq_getElem hm]; rfl
  rw [e, List.take_succ_eq_append_getElem hm, List.reverse_append]
  rfl
theorem mid_swap {A T : List Int} {x : Int} {m k : Nat} (hk : A.length = k + 1 + m) : ((mid A x m T).set (k + 1) (A.getD m 0)).set k x = mid A x (m + 1) T := by
  have hl : k = (A.drop (m + 1)).reverse.length := by rw [List.length_reverse, List.length_drop]; omega
  rw [mid_split hk, mid_next hk]
  generalize (A.drop (m + 1)).reverse = L at hl ⊢
  subst hl
  simp
/-- the same with the hole filled later: what lies at k + 1 comes from k -/
theorem mid_shift {A T L : List Int} {x : Int} {m k : Nat} (hk : A.length = k + 1 + m) (_hL : L.length = A.length + 1 + T.length) (h : L.set (k + 1) x = mid A x m T) : (L.set (k + 1) (L.getD k 0)).set k x = mid A x (m + 1) T := by
  have h0 : L.getD k 0 = A.getD m 0 := by
    have := mid_prev (T := T) (x := x) hk
    rw [← h, List.getD_eq_getElem?_getD, List.getElem?_set_ne (by omega), ← List.getD_eq_getElem?_getD] at this
    exact this
  rw [← mid_swap (T := T) (x := x) hk, ← h, h0, List.set_set]
variable {cl : Int → Int}
theorem ins_at (x : Int) : ∀ (A : List Int) (m : Nat), m ≤ A.length → (∀ y ∈ A.take m, cl x ≠ 0 ∧ cl x < cl y) → (m = A.length ∨ ¬ (cl x ≠ 0 ∧ cl x < cl (A.getD m 0))) → insG cl x A = A.take m ++ x :: A.drop m
  | [], m, hm, _, _ => by
    obtain rfl : m = 0 := by simpa using hm
    rfl
  | y :: r, 0, _, _, h => by
    have h2 : ¬ (cl x ≠ 0 ∧ cl x < cl y) := by
      rcases h with h | h
      · simp at h
      · simpa using h
    rw [insG, if_neg h2]
    rfl
  | y :: r, m + 1, hm, ha, h => by
    rw [insG, if_pos (ha y (by simp)), ins_at x r m (by simpa using hm) (fun z hz => ha z (by simp [hz])) (by simpa using h)]
    rfl
theorem mid_end {A T : List Int} {x : Int} {m : Nat} (hm : m ≤ A.length) (ha : ∀ y ∈ A.take m, cl x ≠ 0 ∧ cl x < cl y) (h : m = A.length ∨ ¬ (cl x ≠ 0 ∧ cl x < cl (A.getD m 0))) : mid A x m T = (insG cl x A).reverse ++ T := by
  rw [ins_at x A m hm ha h]
  unfold mid
  simp
theorem pass_next {A : List Int} {x : Int} {m : Nat} (hm : m < A.length) (ha : ∀ y ∈ A.take m, cl x ≠ 0 ∧ cl x < cl y) (h : cl x ≠ 0 ∧ cl x < cl (A.getD m 0)) : ∀ y ∈ A.take (m + 1), cl x ≠ 0 ∧ cl x < cl y := by
  intro y hy
  rw [List.take_succ_eq_append_getElem hm, List.mem_append] at hy
  rcases hy with hy | hy
  · exact ha y hy
  · have e : A.getD m 0 = A[m] := by rw [List.getD_eq_getElem?_getD, List.getElem?_eq_getElem hm]; rfl
    rw [e] at h
    obtain rfl : y = A[m] := by simpa using hy
    exact h
/-- the numbers up to i in order, the others as they came -/
def partO (cl : Int → Int) (s : List Int) (i : Nat) : List Int := (putFrom cl (s.take i) []).reverse ++ s.drop i
theorem part_len (s : List Int) (i : Nat) : (partO cl s i).length = s.length := by
  unfold partO
  rw [List.length_append, List.length_reverse, from_len, List.length_drop, List.length_nil, List.length_take]
  omega
theorem part_one (s : List Int) : partO cl s 1 = s := by
  unfold partO
  cases s with
  | nil => rfl
  | cons x r => rfl
theorem part_zero (s : List Int) : partO cl s 0 = s := rfl
theorem part_all (s : List Int) {i : Nat} (h : s.length ≤ i) : partO cl s i = putG cl s := by
  unfold partO putG
  rw [List.take_of_length_le h, List.drop_eq_nil_of_le h, List.append_nil]
theorem part_mid (s : List Int) {i : Nat} (h : i < s.length) : partO cl s i = mid (putFrom cl (s.take i) []) (s.getD i 0) 0 (s.drop (i + 1)) := by
  rw [mid_zero]
  unfold partO
  have e : s.getD i 0 = s[i] := by rw [List.getD_eq_getElem?_getD, List.getElem?_eq_getElem h]; rfl
  rw [e, List.drop_eq_getElem_cons h]
theorem part_next (s : List Int) {i : Nat} (h : i < s.length) : partO cl s (i + 1) = (insG cl (s.getD i 0) (putFrom cl (s.take i) [])).reverse ++ s.drop (i + 1) := by
  unfold partO
  have e : s.getD i 0 = s[i] := by rw [List.getD_eq_getElem?_getD, List.getElem?_eq_getElem h]; rfl
  rw [e, List.take_succ_eq_append_getElem h, from_app]
  rfl
theorem acc_len (s : List Int) {i : Nat} (h : i ≤ s.length) : (putFrom cl (s.take i) []).length = i := by
  rw [from_len, List.length_take, List.length_nil]
  omega
end Go.Proofs.Ytimbchkoomjhkaa

/-! Ref9b -/
namespace Go.Proofs.Ytimbchkoomjhkaa
open Go.RowKit

theorem refPutNil9 (B : Nat) (v : Value) (w : World) (hs : Sl .i64 w v []) : Calls Try.prog 33 #[.pointer (some ⟨B, 0, none⟩), v] w fun e w' => ∃ x, e = .returned x ∧ Own .i64 3 w.heap.size w' x [] ∧ Below w.heap.size w w' := by
  have HS := hid hs
  clear hs
  go_enter Try.func33, Try.ntmps33
  go_wp2_with (go_at_call 11; refine (keepTwinInts v [] _ HS.out (by simp)).mono ?_; rintro e w1 ⟨v1, rfl, ho1, hb1⟩; have HO1 := hid ho1; have HB1 := hid hb1; obtain ⟨a1, c1, hv1⟩ := ho1.sl.form; subst hv1; simp only [List.length_nil]; clear ho1 hb1)
  go_loopw [6] (fun iv wr => iv = .int .i64 1 ∧ w1 = wr) (fun iv _ => 1)
  case atStart => exact ⟨rfl, rfl⟩
  case round =>
    obtain ⟨rfl, rfl⟩ := hrel
    go_wp2_with (fail)
    go_ret
    exact ⟨_, rfl, HO1.out, HB1.out⟩
set_option maxHeartbeats 8000000 in
theorem refPut9 (B : Nat) (v : Value) (s : List Int) (w : World) (h : TabsAt B w) (hs : Sl .i64 w v s) (hl : s.length ≤ 1000000) : Calls Try.prog 33 #[.pointer (some ⟨B, 0, none⟩), v] w fun e w' => ∃ x, e = .returned x ∧ Own .i64 3 w.heap.size w' x (putG classS s) ∧ Below w.heap.size w w' := by
  by_cases hne : s = []
  · subst hne
    exact refPutNil9 B v w hs
  have HT := hid h
  have HS := hid hs
  have HL := hid hl
  have hn0 : 0 < s.length := List.length_pos_iff.2 hne
  clear h hs hne
  go_enter Try.func33, Try.ntmps33
  go_wp2_with (go_at_call 11; refine (keepTwinInts v s _ HS.out (by have := HL.out; omega)).mono ?_; rintro e w1 ⟨v1, rfl, ho1, hb1⟩; have HB1 := hid hb1; rcases ho1.2 with ⟨_, h0⟩ | ⟨g, cap, cur, rfl, _⟩; · omega)
  obtain ⟨rest, hr, hg, -, hcap, hcm⟩ := RowI.of_own ho1
  obtain ⟨n, hn⟩ : ∃ n, n = s.length := ⟨_, rfl⟩
  rw [← hn] at hl hn0 hcap ⊢
  have HR := hid hr
  have HN := hid hn
  have HC := hid hcap
  clear ho1 hb1 hr hn hcap
  go_loopw [6] (fun iv wr => ∃ i : Nat, 1 ≤ i ∧ i ≤ n ∧ iv = .int .i64 i ∧ Hid (RowI g rest w1 (partO classS s i) wr)) (fun iv _ => n - (intOf iv).toNat)
  case atStart => exact ⟨1, by omega, by omega, rfl, by rw [part_one]; exact HR.out⟩
  case round =>
    obtain ⟨i, hi1, hi, rfl, hrow⟩ := hrel
    by_cases hlt : i < n
    · obtain ⟨A, hA⟩ : ∃ A, A = putFrom classS (s.take i) [] := ⟨_, rfl⟩
      obtain ⟨x, hx⟩ : ∃ x, x = s.getD i 0 := ⟨_, rfl⟩
      obtain ⟨T, hT⟩ : ∃ T, T = s.drop (i + 1) := ⟨_, rfl⟩
      have hAl : A.length = i := by rw [hA]; exact acc_len s (by have := HN.out; omega)
      have hTl : T.length + (i + 1) = n := by rw [hT, List.length_drop]; have := HN.out; omega
      have hm0 := hrow.out
      rw [part_mid s (by have := HN.out; omega), ← hA, ← hx, ← hT] at hm0
      have HM0 := hid hm0
      have HEND := hid (fun (m : Nat) (h1 : m ≤ A.length) (h2 : ∀ y ∈ A.take m, classS x ≠ 0 ∧ classS x < classS y) (h3 : m = A.length ∨ ¬ (classS x ≠ 0 ∧ classS x < classS (A.getD m 0))) => (show mid A x m T = partO classS s (i + 1) from by
        rw [part_next s (by have := HN.out; omega), ← hA, ← hx, ← hT]
        exact mid_end h1 h2 h3))
      clear hm0 hA hx hT hrow
      have HX := hid (fun w h => refTClass B x w h)
      obtain ⟨cx, hcx⟩ : ∃ cx, cx = classS x := ⟨_, rfl⟩
      rw [← hcx] at HX HEND
      have HCX := hid hcx
      clear hcx
      go_wp2_with (fail)
      go_loopw [7] (fun kv wr => ∃ k m : Nat, k + m = i ∧ kv = .int .i64 k ∧ Hid (RowI g rest w1 (mid A x m T) wr) ∧ Hid (∀ y ∈ A.take m, cx ≠ 0 ∧ cx < classS y)) (fun kv _ => (intOf kv).toNat)
      case atStart => exact ⟨i, 0, by omega, rfl, HM0.out, by show ∀ y ∈ A.take 0, _; simp⟩
      case round =>
        obtain ⟨k, m, hkm, rfl, hrow, hps⟩ := hrel
        have HTR := hid (HT.out.below (hrow.out.behind HB1.out hg HB1.out.size))
        by_cases hk0 : k = 0
        · subst hk0
          have hnx := hid (HEND.out m (by omega) hps.out (.inl (by omega)))
          go_wp2_with (fail)
          go_quiet (fail)
          go_wp2_with (fail)
          go_roundw
          case rel => exact ⟨i + 1, by omega, by omega, by go_num, by rw [← hnx.out]; exact hrow.out.drewN _⟩
          case measure => simp [intOf]; omega
        · obtain ⟨j, hj⟩ : ∃ j, k = j + 1 := ⟨k - 1, by omega⟩
          have hml : (mid A x m T).length = n := by rw [mid_len (by omega)]; omega
          have c1 := hrow.out.at (i := k) (by rw [hml]; omega)
          have c0 := hrow.out.at (i := j) (by rw [hml]; omega)
          have f1 := hrow.out.ice k
          have f0 := hrow.out.ice j
          rw [mid_at (by omega)] at c1
          rw [mid_prev (by omega)] at c0
          have HE2 := hid (fun h => HEND.out m (by omega) hps.out (.inr h))
          have HPN := hid (fun (h : cx ≠ 0 ∧ cx < classS (A.getD m 0)) => (show ∀ y ∈ A.take (m + 1), cx ≠ 0 ∧ cx < classS y from by
            rw [HCX.out] at h ⊢
            exact pass_next (by omega) (by rw [← HCX.out]; exact hps.out) h))
          have HSW := hid (mid_swap (A := A) (T := T) (x := x) (m := m) (k := j) (by omega))
          rw [← hj] at HSW
          have HRW := hid hrow.out
          generalize hyd : A.getD m 0 = y at c0 HE2 HPN HSW
          have HY := hid (fun w h => refTClass B y w h)
          generalize classS y = cy at HY HE2 HPN
          have l1 : k < n := by omega
          have l0 : j < n := by omega
          have n1 : k ≠ j := by omega
          have n2 : j ≠ k := by omega
          have hd0 : decide (0 < k) = true := by rw [decide_eq_true_iff]; omega
          have ej : (k : Int) - 1 = (j : Int) := by omega
          have wj : IntKind.i64.wrap (j : Int) = (j : Int) := by rw [IntKind.wrap_i64]; have := HL.out; have := HN.out; omega
          have HJ := hid hj
          clear hrow hyd hj
          by_cases hx0 : cx = 0
          · have hnx := hid (HE2.out (fun h => h.1 hx0))
            go_wp2_with (fail)
            go_quiet (first | (go_at_call 41; exact quiet_same0 (HX.out _ (HTR.out.below (below_drewN _)))))
            go_wp2_with (fail)
            go_roundw
            case rel => exact ⟨i + 1, by omega, by omega, by go_num, by rw [← hnx.out]; exact HRW.out.drewN _⟩
            case measure => simp [intOf]; omega
          · have hb0 : (cx == 0) = false := by rw [beq_eq_false_iff_ne]; exact hx0
            by_cases hxy : cx < cy
            · have hq := hid (HPN.out ⟨hx0, hxy⟩)
              go_wp2_with (fail)
              go_quiet (first
                | (go_at_call 41; with_reducible exact quiet_same0 (HX.out _ (HTR.out.below (below_drewN _))))
                | (go_at_call 41; with_reducible exact quiet_same0 (HY.out _ (HTR.out.below (below_drewN _)))))
              go_wp2_with (fail)
              go_big_region
              all_goals go_wp2
              go_roundw
              case rel => exact ⟨j, m + 1, by have := HJ.out; omega, by go_num, by show RowI _ _ _ _ _; rw [← HSW.out]; exact RowI.swap (HRW.out.drewN _) (by rw [hml]; exact l1) (by rw [hml]; exact l0) y x, hq.out⟩
              case measure => simp [intOf]; have := HJ.out; omega
            · have hnx := hid (HE2.out (fun h => hxy h.2))
              go_wp2_with (fail)
              go_quiet (first
                | (go_at_call 41; with_reducible exact quiet_same0 (HX.out _ (HTR.out.below (below_drewN _))))
                | (go_at_call 41; with_reducible exact quiet_same0 (HY.out _ (HTR.out.below (below_drewN _)))))
              go_wp2_with (fail)
              go_roundw
              case rel => exact ⟨i + 1, by omega, by omega, by go_num, by rw [← hnx.out]; exact HRW.out.drewN _⟩
              case measure => simp [intOf]; omega
    · obtain rfl : i = n := by omega
      have hall := part_all (cl := classS) s (i := i) (by have := HN.out; omega)
      go_wp2_with (fail)
      go_ret
      refine ⟨_, rfl, ?_, hrow.out.behind HB1.out hg HB1.out.size⟩
      rw [← hall]
      have e := part_len (cl := classS) s i
      have := hrow.out.own (base := w.heap.size) (cap := cap) hg (by rw [e, ← HN.out]; exact HC.out) hcm
      rw [e, ← HN.out] at this
      exact this
end Go.Proofs.Ytimbchkoomjhkaa

/-! Ref11a -/
namespace Go.Proofs.Ytimbchkoomjhkaa
open Go.RowKit

set_option maxHeartbeats 1000000 in
theorem refApart11 (k : Bool) (B : Nat) (v : Value) (s : List Int) (w : World) (h : TabsAt B w) (hs : Sl .i64 w v s) (hf : FitsK k s) : Calls Try.prog 15 #[.pointer (some ⟨B, 0, none⟩), v, .bool k] w fun e w' => ∃ x, e = .returned x ∧ Own .i64 3 w.heap.size w' x (apartS k s) ∧ Below w.heap.size w w' := by
  have HT := hid h
  have H1 := hid (refEach8 k B v s w h hs hf.1 hf.2.1)
  have H2 := hid (fun v w ht h => refPut9 B v (allS k s) w ht h hf.2.2)
  obtain ⟨A, hA⟩ : ∃ A, A = apartS k s := ⟨_, rfl⟩
  rw [← hA]
  rw [show putG classS (allS k s) = A from hA.symm] at H2
  generalize allS k s = D at H1 H2
  clear hA h hs hf
  go_enter Try.func15, Try.ntmps15
  go_wp2_with (first
    | (go_at_call 34; refine H1.out.mono ?_; rintro e w1 ⟨v1, rfl, ho1, hb1⟩; have HO1 := hid ho1.sl; have HB1 := hid hb1; clear ho1 hb1)
    | (go_at_call 33; refine (H2.out v1 _ (HT.out.below HB1.out) HO1.out).mono ?_; rintro e w2 ⟨v2, rfl, ho2, hb2⟩; have HO2 := hid (ho2.mono HB1.out.size); have HB2 := hid (HB1.out.trans (hb2.mono HB1.out.size)); clear ho2 hb2))
  go_ret
  exact ⟨_, rfl, HO2.out, HB2.out⟩
set_option maxHeartbeats 1000000 in
theorem refForm11 (k : Bool) (B : Nat) (v : Value) (s : List Int) (w : World) (h : TabsAt B w) (hs : Sl .i64 w v s) (hf : FitsK k s) : Calls Try.prog 12 #[.pointer (some ⟨B, 0, none⟩), v, .bool k] w fun e w' => ∃ x, e = .returned x ∧ Own .i64 3 w.heap.size w' x (formS k s) ∧ Below w.heap.size w w' := by
  have HT := hid h
  have H1 := hid (refApart11 k B v s w h hs hf)
  have H2 := hid (fun v w ht h => refCompose10 B v (apartS k s) w ht h (apart_inI hf.1) (by rw [apart_len]; exact hf.2.2))
  obtain ⟨F, hF⟩ : ∃ F, F = formS k s := ⟨_, rfl⟩
  rw [← hF]
  rw [show compG classS twoS (apartS k s) = F from hF.symm] at H2
  generalize apartS k s = A at H1 H2
  clear hF h hs hf
  go_enter Try.func12, Try.ntmps12
  go_wp2_with (first
    | (go_at_call 15; refine H1.out.mono ?_; rintro e w1 ⟨v1, rfl, ho1, hb1⟩; have HO1 := hid ho1.sl; have HB1 := hid hb1; clear ho1 hb1)
    | (go_at_call 30; refine (H2.out v1 _ (HT.out.below HB1.out) HO1.out).mono ?_; rintro e w2 ⟨v2, rfl, ho2, hb2⟩; have HO2 := hid (ho2.mono HB1.out.size); have HB2 := hid (HB1.out.trans (hb2.mono HB1.out.size)); clear ho2 hb2))
  go_ret
  exact ⟨_, rfl, HO2.out, HB2.out⟩
end Go.Proofs.Ytimbchkoomjhkaa
