/- Several texts in one: Ref9a, OrdMid, RowI, Ref9b, LawExact9, LawParts9, Walks9, OpenB, OpenL. -/
import Derived.Test.YtialgjbponlipaaPk1
import Derived.Test.YtialgjbponlipaaPk17
import Derived.Test.YtialgjbponlipaaPk3
import Derived.Test.YtialgjbponlipaaPk2
import Derived.BigRegion
import Derived.Test.YtialgjbponlipaaPk8
import Derived.Test.YtialgjbponlipaaPk9
import Derived.ProofKit
import Derived.OpenShut
import Derived.ShutString
import Derived.ChangeOld
import Derived.Deep.Fields
/-! Ref9a -/
namespace Go.Proofs.Ytialgjbponlipaa
open Go.RowKit

set_option maxHeartbeats 4000000 in
theorem refOrdered9 (B : Nat) (v : Value) (s : List Int) (w : World) (h : TabsAt B w) (hs : Sl .i64 w v s) : Calls Try.prog 10 #[.pointer (some ⟨B, 0, none⟩), v] w fun e w' => e = .returned (.bool (ordG classS s)) ∧ w = w' := by
  have HT := hid h
  have ml := hs.len
  obtain ⟨a1, cap1, rfl, q1, -, h1⟩ := hs
  obtain ⟨n, hn⟩ : ∃ n, n = s.length := ⟨_, rfl⟩
  have HR := hid (fun (i : Nat) (hi : i + 1 < n) (hc : classS (s.getD (i + 1) 0) ≠ 0 ∧ classS (s.getD (i + 1) 0) < classS (s.getD i 0)) => ord_not (cl := classS) (by omega) hc)
  have HO := hid (fun (hc : ∀ i, i + 1 < n → ¬ (classS (s.getD (i + 1) 0) ≠ 0 ∧ classS (s.getD (i + 1) 0) < classS (s.getD i 0))) => ord_of (cl := classS) (s := s) (by rw [← hn]; exact hc))
  have H1 := hid h1
  rw [← hn] at ml q1 H1 ⊢
  clear h1 h
  obtain ⟨R, hR⟩ : ∃ R, R = ordG classS s := ⟨_, rfl⟩
  rw [← hR] at HR HO ⊢
  clear hR hn
  go_enter Try.func10, Try.ntmps10
  go_wp2_with (fail)
  go_loopw [5] (fun iv wr => ∃ k : Nat, 1 ≤ k ∧ (k ≤ n ∨ k = 1) ∧ iv = .int .i64 k ∧ w = wr ∧ Hid (∀ i, i + 1 < k → ¬ (classS (s.getD (i + 1) 0) ≠ 0 ∧ classS (s.getD (i + 1) 0) < classS (s.getD i 0)))) (fun iv _ => n - (intOf iv).toNat)
  case atStart => exact ⟨1, by omega, by omega, rfl, rfl, fun i hi => absurd hi (by omega)⟩
  case round =>
    obtain ⟨k, hk1, hk, rfl, rfl, hall⟩ := hrel
    by_cases hlt : k < n
    · obtain ⟨j, rfl⟩ : ∃ j, k = j + 1 := ⟨k - 1, by omega⟩
      rcases H1.out with hc | ⟨b1, o1, rfl, hb1, c1⟩
      · omega
      have d1 := c1 (j + 1) hlt
      have d0 := c1 j (by omega)
      have HRJ := hid (HR.out j hlt)
      have HNX := hid (show ¬ (classS (s.getD (j + 1) 0) ≠ 0 ∧ classS (s.getD (j + 1) 0) < classS (s.getD j 0)) → ∀ i, i + 1 < j + 1 + 1 → ¬ (classS (s.getD (i + 1) 0) ≠ 0 ∧ classS (s.getD (i + 1) 0) < classS (s.getD i 0)) from fun hc i hi => by
        rcases Nat.lt_or_ge i j with h | h
        · exact hall.out i (by omega)
        · obtain rfl : i = j := by omega
          exact hc)
      clear c1 hb1 HR
      generalize s.getD (j + 1) 0 = x at d1 HRJ HNX
      generalize s.getD j 0 = y at d0 HRJ HNX
      have HX := hid (fun w h => refTClass B x w h)
      have HY := hid (fun w h => refTClass B y w h)
      generalize classS x = cx at HX HRJ HNX
      generalize classS y = cy at HY HRJ HNX
      have ej : ((j + 1 : Nat) : Int) - 1 = (j : Int) := by omega
      by_cases hx0 : cx = 0
      · have hn2 := hid (HNX.out (fun h => h.1 hx0))
        go_wp2_with (first
          | (go_at_call 22; refine (HX.out _ HT.out).mono ?_; rintro e w1 ⟨rfl, rfl⟩))
        go_roundw
        case rel => exact ⟨j + 1 + 1, by omega, by omega, by go_num, trivial, hn2.out⟩
        case measure => simp [intOf]; omega
      · by_cases hxy : cx < cy
        · have hr := hid (HRJ.out ⟨hx0, hxy⟩)
          go_wp2_with (first
            | (go_at_call 22; with_reducible refine (HX.out _ HT.out).mono ?_; rintro e w1 ⟨rfl, rfl⟩)
            | (go_at_call 22; with_reducible refine (HY.out _ HT.out).mono ?_; rintro e w1 ⟨rfl, rfl⟩))
          go_ret
          exact ⟨by rw [hr.out]; rfl, rfl⟩
        · have hn2 := hid (HNX.out (fun h => hxy h.2))
          go_wp2_with (first
            | (go_at_call 22; with_reducible refine (HX.out _ HT.out).mono ?_; rintro e w1 ⟨rfl, rfl⟩)
            | (go_at_call 22; with_reducible refine (HY.out _ HT.out).mono ?_; rintro e w1 ⟨rfl, rfl⟩))
          go_roundw
          case rel => exact ⟨j + 1 + 1, by omega, by omega, by go_num, trivial, hn2.out⟩
          case measure => simp [intOf]; omega
    · have hr := hid (HO.out (fun i hi => hall.out i (by omega)))
      go_wp2_with (fail)
      go_ret
      exact ⟨by rw [hr.out]; rfl, rfl⟩
end Go.Proofs.Ytialgjbponlipaa

/-! OrdMid -/
namespace Go.Proofs.Ytialgjbponlipaa

/-- A (the last one first) lies there, x has come past m of them -/
def mid (A : List Int) (x : Int) (m : Nat) (T : List Int) : List Int := (A.drop m).reverse ++ x :: ((A.take m).reverse ++ T)
theorem mid_len {A T : List Int} {x : Int} {m : Nat} (h : m ≤ A.length) : (mid A x m T).length = A.length + 1 + T.length := by
  unfold mid
  simp only [List.length_append, List.length_cons, List.length_reverse, List.length_drop, List.length_take]
  omega
theorem mid_zero (A T : List Int) (x : Int) : mid A x 0 T = A.reverse ++ x :: T := by
  unfold mid
  simp
theorem mid_at {A T : List Int} {x : Int} {m k : Nat} (hk : A.length = k + m) : (mid A x m T).getD k 0 = x := by
  have hl : k = (A.drop m).reverse.length := by rw [List.length_reverse, List.length_drop]; omega
  unfold mid
  rw [hl, List.getD_eq_getElem?_getD]
  simp
theorem mid_split {A T : List Int} {x : Int} {m k : Nat} (hk : A.length = k + 1 + m) : mid A x m T = (A.drop (m + 1)).reverse ++ (A.getD m 0) :: x :: ((A.take m).reverse ++ T) := by
  have hm : m < A.length := by omega
  unfold mid
  have e : A.getD m 0 = A[m] := by rw [List.getD_eq_getElem?_getD, List.getElem?_eq_getElem hm]; rfl
  rw [e, List.drop_eq_getElem_cons hm, List.reverse_cons, List.append_assoc]
  rfl
theorem mid_prev {A T : List Int} {x : Int} {m k : Nat} (hk : A.length = k + 1 + m) : (mid A x m T).getD k 0 = A.getD m 0 := by
  have hl : k = (A.drop (m + 1)).reverse.length := by rw [List.length_reverse, List.length_drop]; omega
  rw [mid_split hk]
  conv => lhs; rw [hl]
  rw [List.getD_eq_getElem?_getD]
  simp
theorem mid_next {A T : List Int} {x : Int} {m k : Nat} (hk : A.length = k + 1 + m) : mid A x (m + 1) T = (A.drop (m + 1)).reverse ++ x :: (A.getD m 0) :: ((A.take m).reverse ++ T) := by
  have hm : m < A.length := by omega
  unfold mid
  have e : A.getD m 0 = A[m] := by rw [List.getD_eq_getElem?_getD, List.getElem?_eq_getElem hm]; rfl
  rw [e, List.take_succ_eq_append_getElem hm, List.reverse_append]
  rfl
theorem mid_swap {A T : List Int} {x : Int} {m k : Nat} (hk : A.length = k + 1 + m) : ((mid A x m T).set (k + 1) (A.getD m 0)).set k x = mid A x (m + 1) T := by
  have hl : k = (A.drop (m + 1)).reverse.length := by rw [List.length_reverse, List.length_drop]; omega
  rw [mid_split hk, mid_next hk]
  generalize (A.drop (m + 1)).reverse = L at hl ⊢
  subst hl
  simp
/-- the same with the hole filled later: what lies at k + 1 comes from k -/
theorem mid_shift {A T L : List Int} {x : Int} {m k : Nat} (hk : A.length = k + 1 + m) (_hL : L.length = A.length + 1 + T.length) (h : L.set (k + 1) x = mid A x m T) : (L.set (k + 1) (L.getD k 0)).set k x = mid A x (m + 1) T := by
  have h0 : L.getD k 0 = A.getD m 0 := by
    have := mid_prev (T := T) (x := x) hk
    rw [← h, List.getD_eq_getElem?_getD, List.getElem?_set_ne (by omega), ← List.getD_eq_getElem?_getD] at this
    exact this
  rw [← mid_swap (T := T) (x := x) hk, ← h, h0, List.set_set]
variable {cl : Int → Int}
theorem ins_at (x : Int) : ∀ (A : List Int) (m : Nat), m ≤ A.length → (∀ y ∈ A.take m, cl x ≠ 0 ∧ cl x < cl y) → (m = A.length ∨ ¬ (cl x ≠ 0 ∧ cl x < cl (A.getD m 0))) → insG cl x A = A.take m ++ x :: A.drop m
  | [], m, hm, _, _ => by
    obtain rfl : m = 0 := by simpa using hm
    rfl
  | y :: r, 0, _, _, h => by
    have h2 : ¬ (cl x ≠ 0 ∧ cl x < cl y) := by
      rcases h with h | h
      · simp at h
      · simpa using h
    rw [insG, if_neg h2]
    rfl
  | y :: r, m + 1, hm, ha, h => by
    rw [insG, if_pos (ha y (by simp)), ins_at x r m (by simpa using hm) (fun z hz => ha z (by simp [hz])) (by simpa using h)]
    rfl
theorem mid_end {A T : List Int} {x : Int} {m : Nat} (hm : m ≤ A.length) (ha : ∀ y ∈ A.take m, cl x ≠ 0 ∧ cl x < cl y) (h : m = A.length ∨ ¬ (cl x ≠ 0 ∧ cl x < cl (A.getD m 0))) : mid A x m T = (insG cl x A).reverse ++ T := by
  rw [ins_at x A m hm ha h]
  unfold mid
  simp
theorem pass_next {A : List Int} {x : Int} {m : Nat} (hm : m < A.length) (ha : ∀ y ∈ A.take m, cl x ≠ 0 ∧ cl x < cl y) (h : cl x ≠ 0 ∧ cl x < cl (A.getD m 0)) : ∀ y ∈ A.take (m + 1), cl x ≠ 0 ∧ cl x < cl y := by
  intro y hy
  rw [List.take_succ_eq_append_getElem hm, List.mem_append] at hy
  rcases hy with hy | hy
  · exact ha y hy
  · have e : A.getD m 0 = A[m] := by rw [List.getD_eq_getElem?_getD, List.getElem?_eq_getElem hm]; rfl
    rw [e] at h
    obtain rfl : y = A[m] := by simpa using hy
    exact h
/-- the numbers up to i in order, the others as they came -/
def partO (cl : Int → Int) (s : List Int) (i : Nat) : List Int := (putFrom cl (s.take i) []).reverse ++ s.drop i
theorem part_len (s : List Int) (i : Nat) : (partO cl s i).length = s.length := by
  unfold partO
  rw [List.length_append, List.length_reverse, from_len, List.length_drop, List.length_nil, List.length_take]
  omega
theorem part_one (s : List Int) : partO cl s 1 = s := by
  unfold partO
  cases s with
  | nil => rfl
  | cons x r => rfl
theorem part_zero (s : List Int) : partO cl s 0 = s := rfl
theorem part_all (s : List Int) {i : Nat} (h : s.length ≤ i) : partO cl s i = putG cl s := by
  unfold partO putG
  rw [List.take_of_length_le h, List.drop_eq_nil_of_le h, List.append_nil]
theorem part_mid (s : List Int) {i : Nat} (h : i < s.length) : partO cl s i = mid (putFrom cl (s.take i) []) (s.getD i 0) 0 (s.drop (i + 1)) := by
  rw [mid_zero]
  unfold partO
  have e : s.getD i 0 = s[i] := by rw [List.getD_eq_getElem?_getD, List.getElem?_eq_getElem h]; rfl
  rw [e, List.drop_eq_getElem_cons h]
theorem part_next (s : List Int) {i : Nat} (h : i < s.length) : partO cl s (i + 1) = (insG cl (s.getD i 0) (putFrom cl (s.take i) [])).reverse ++ s.drop (i + 1) := by
  unfold partO
  have e : s.getD i 0 = s[i] := by rw [List.getD_eq_getElem?_getD, List.getElem?_eq_getElem h]; rfl
  rw [e, List.take_succ_eq_append_getElem h, from_app]
  rfl
theorem acc_len (s : List Int) {i : Nat} (h : i ≤ s.length) : (putFrom cl (s.take i) []).length = i := by
  rw [from_len, List.length_take, List.length_nil]
  omega
end Go.Proofs.Ytialgjbponlipaa

/-! RowI -/
namespace Go.Proofs.Ytialgjbponlipaa
open Go.RowKit

/-- block g holds the numbers xs and then rest; all other blocks are as they were in w -/
def RowI (g : Nat) (rest : List Value) (w : World) (xs : List Int) (wr : World) : Prop :=
  Box 3 (xs.map (Value.int .i64) ++ rest) g wr ∧ w.grownBy wr (some g)
theorem RowI.of_own {base g n cap : Nat} {w : World} {xs : List Int} (h : Own .i64 3 base w (.slice (some ⟨g, 0, none⟩) n cap) xs) : ∃ rest, RowI g rest w xs w ∧ base ≤ g ∧ n = xs.length ∧ cap = n + rest.length ∧ cap ≤ maxLen := by
  obtain ⟨h1, h2⟩ := h
  rcases h2 with ⟨h2, _⟩ | ⟨g', cap', cur, hv, hb, hg, hn, hm, hs, ht⟩
  · cases h2
  · cases hv
    refine ⟨cur.toList.drop (xs.length * 1), ⟨?_, rfl, rfl, rfl, Nat.le_refl _, fun _ _ _ => rfl⟩, hb, rfl, ?_, hm⟩
    · show w.heap[g]? = _
      rw [hg, ← ht, List.take_append_drop]
    · have hd : (cur.toList.drop (xs.length * 1)).length = cur.size - xs.length * 1 := by rw [List.length_drop]; rfl
      rw [hd, hs]
      omega
theorem RowI.own {g : Nat} {rest : List Value} {w wr : World} {xs : List Int} (h : RowI g rest w xs wr) {base cap : Nat} (hb : base ≤ g) (hc : cap = xs.length + rest.length) (hm : cap ≤ maxLen) : Own .i64 3 base wr (.slice (some ⟨g, 0, none⟩) xs.length cap) xs := by
  refine ⟨by simp, .inr ⟨g, cap, _, rfl, hb, h.1, by omega, hm, ?_, ?_⟩⟩
  · simp [hc]
  · simp
theorem RowI.at {g : Nat} {rest : List Value} {w wr : World} {xs : List Int} (h : RowI g rest w xs wr) {i : Nat} (hi : i < xs.length) : wr.cell? ⟨g, i, none⟩ = some (.int .i64 (xs.getD i 0)) := by
  rw [h.1.cell i, List.getElem?_append_left (by simpa using hi), List.getElem?_map, List.getElem?_eq_getElem hi, List.getD_eq_getElem?_getD, List.getElem?_eq_getElem hi]
  rfl
theorem RowI.at0 {g : Nat} {rest : List Value} {w wr : World} {xs : List Int} (h : RowI g rest w xs wr) {i : Nat} (hi : i < xs.length) : wr.cell? ⟨g, 0 + i, none⟩ = some (.int .i64 (xs.getD i 0)) := by
  rw [Nat.zero_add]
  exact h.at hi
theorem RowI.ice {g : Nat} {rest : List Value} {w wr : World} {xs : List Int} (h : RowI g rest w xs wr) (i : Nat) : wr.frozen? ⟨g, i, none⟩ = false := h.1.ice i
theorem RowI.set {g : Nat} {rest : List Value} {w wr : World} {xs : List Int} (h : RowI g rest w xs wr) {i : Nat} (hi : i < xs.length) (x : Int) : RowI g rest w (xs.set i x) (wr.setCell ⟨g, i, none⟩ (.int .i64 x)) := by
  refine ⟨?_, grow_set1 h.2 i _⟩
  have := h.1.set i (.int .i64 x)
  rw [List.set_append_left _ _ (by simpa using hi), ← List.map_set] at this
  exact this
theorem RowI.drewN {g : Nat} {rest : List Value} {w wr : World} {xs : List Int} (h : RowI g rest w xs wr) (n : Nat) : RowI g rest w xs (wr.drewN n) :=
  ⟨h.1, ⟨h.2.os, h.2.tape, h.2.output, h.2.size, h.2.block⟩⟩
theorem RowI.drew {g : Nat} {rest : List Value} {w wr : World} {xs : List Int} (h : RowI g rest w xs wr) : RowI g rest w xs wr.drew := h.drewN 1
theorem RowI.lt {g : Nat} {rest : List Value} {w wr : World} {xs : List Int} (h : RowI g rest w xs wr) : g < wr.heap.size := h.1.lt
theorem RowI.below {g : Nat} {rest : List Value} {w wr w2 : World} {xs : List Int} (h : RowI g rest w xs wr) (hb : Below wr.heap.size wr w2) : RowI g rest w xs w2 :=
  ⟨h.1.below hb h.1.lt, ⟨hb.os.trans h.2.os, hb.tape.trans h.2.tape, hb.output.trans h.2.output, Nat.le_trans h.2.size hb.size, fun k hk hn => (hb.block k (Nat.lt_of_lt_of_le hk h.2.size)).trans (h.2.block k hk hn)⟩⟩
theorem RowI.swap {g : Nat} {rest : List Value} {w wr : World} {xs : List Int} (h : RowI g rest w xs wr) {i j : Nat} (hi : i < xs.length) (hj : j < xs.length) (x y : Int) : RowI g rest w ((xs.set i x).set j y) ((wr.setCell ⟨g, i, none⟩ (.int .i64 x)).setCell ⟨g, j, none⟩ (.int .i64 y)) :=
  (h.set hi x).set (by rw [List.length_set]; exact hj) y
/-- what lies below the row has not changed -/
theorem RowI.behind {g : Nat} {rest : List Value} {w wr : World} {xs : List Int} (h : RowI g rest w xs wr) {w0 : World} {B : Nat} (hb : Below B w0 w) (hg : B ≤ g) (hB : B ≤ w.heap.size) : Below B w0 wr :=
  hb.grown h.2 hB (fun k e => by cases e; exact hg)
end Go.Proofs.Ytialgjbponlipaa

/-! Ref9b -/
namespace Go.Proofs.Ytialgjbponlipaa
open Go.RowKit

theorem refPutNil9 (B : Nat) (v : Value) (w : World) (hs : Sl .i64 w v []) : Calls Try.prog 13 #[.pointer (some ⟨B, 0, none⟩), v] w fun e w' => ∃ x, e = .returned x ∧ Own .i64 3 w.heap.size w' x [] ∧ Below w.heap.size w w' := by
  have HS := hid hs
  clear hs
  go_enter Try.func13, Try.ntmps13
  go_wp2_with (go_at_call 8; refine (keepTwinInts v [] _ HS.out (by simp)).mono ?_; rintro e w1 ⟨v1, rfl, ho1, hb1⟩; have HO1 := hid ho1; have HB1 := hid hb1; obtain ⟨a1, c1, hv1⟩ := ho1.sl.form; subst hv1; simp only [List.length_nil]; clear ho1 hb1)
  go_loopw [6] (fun iv wr => iv = .int .i64 1 ∧ w1 = wr) (fun iv _ => 1)
  case atStart => exact ⟨rfl, rfl⟩
  case round =>
    obtain ⟨rfl, rfl⟩ := hrel
    go_wp2_with (fail)
    go_ret
    exact ⟨_, rfl, HO1.out, HB1.out⟩
set_option maxHeartbeats 8000000 in
theorem refPut9 (B : Nat) (v : Value) (s : List Int) (w : World) (h : TabsAt B w) (hs : Sl .i64 w v s) (hl : s.length ≤ 1000000) : Calls Try.prog 13 #[.pointer (some ⟨B, 0, none⟩), v] w fun e w' => ∃ x, e = .returned x ∧ Own .i64 3 w.heap.size w' x (putG classS s) ∧ Below w.heap.size w w' := by
  by_cases hne : s = []
  · subst hne
    exact refPutNil9 B v w hs
  have HT := hid h
  have HS := hid hs
  have HL := hid hl
  have hn0 : 0 < s.length := List.length_pos_iff.2 hne
  clear h hs hne
  go_enter Try.func13, Try.ntmps13
  go_wp2_with (go_at_call 8; refine (keepTwinInts v s _ HS.out (by have := HL.out; omega)).mono ?_; rintro e w1 ⟨v1, rfl, ho1, hb1⟩; have HB1 := hid hb1; rcases ho1.2 with ⟨_, h0⟩ | ⟨g, cap, cur, rfl, _⟩; · omega)
  obtain ⟨rest, hr, hg, -, hcap, hcm⟩ := RowI.of_own ho1
  obtain ⟨n, hn⟩ : ∃ n, n = s.length := ⟨_, rfl⟩
  rw [← hn] at hl hn0 hcap ⊢
  have HR := hid hr
  have HN := hid hn
  have HC := hid hcap
  clear ho1 hb1 hr hn hcap
  go_loopw [6] (fun iv wr => ∃ i : Nat, 1 ≤ i ∧ i ≤ n ∧ iv = .int .i64 i ∧ Hid (RowI g rest w1 (partO classS s i) wr)) (fun iv _ => n - (intOf iv).toNat)
  case atStart => exact ⟨1, by omega, by omega, rfl, by rw [part_one]; exact HR.out⟩
  case round =>
    obtain ⟨i, hi1, hi, rfl, hrow⟩ := hrel
    by_cases hlt : i < n
    · obtain ⟨A, hA⟩ : ∃ A, A = putFrom classS (s.take i) [] := ⟨_, rfl⟩
      obtain ⟨x, hx⟩ : ∃ x, x = s.getD i 0 := ⟨_, rfl⟩
      obtain ⟨T, hT⟩ : ∃ T, T = s.drop (i + 1) := ⟨_, rfl⟩
      have hAl : A.length = i := by rw [hA]; exact acc_len s (by have := HN.out; omega)
      have hTl : T.length + (i + 1) = n := by rw [hT, List.length_drop]; have := HN.out; omega
      have hm0 := hrow.out
      rw [part_mid s (by have := HN.out; omega), ← hA, ← hx, ← hT] at hm0
      have HM0 := hid hm0
      have HEND := hid (fun (m : Nat) (h1 : m ≤ A.length) (h2 : ∀ y ∈ A.take m, classS x ≠ 0 ∧ classS x < classS y) (h3 : m = A.length ∨ ¬ (classS x ≠ 0 ∧ classS x < classS (A.getD m 0))) => (show mid A x m T = partO classS s (i + 1) from by
        rw [part_next s (by have := HN.out; omega), ← hA, ← hx, ← hT]
        exact mid_end h1 h2 h3))
      clear hm0 hA hx hT hrow
      have HX := hid (fun w h => refTClass B x w h)
      obtain ⟨cx, hcx⟩ : ∃ cx, cx = classS x := ⟨_, rfl⟩
      rw [← hcx] at HX HEND
      have HCX := hid hcx
      clear hcx
      go_wp2_with (fail)
      go_loopw [7] (fun kv wr => ∃ k m : Nat, k + m = i ∧ kv = .int .i64 k ∧ Hid (RowI g rest w1 (mid A x m T) wr) ∧ Hid (∀ y ∈ A.take m, cx ≠ 0 ∧ cx < classS y)) (fun kv _ => (intOf kv).toNat)
      case atStart => exact ⟨i, 0, by omega, rfl, HM0.out, by show ∀ y ∈ A.take 0, _; simp⟩
      case round =>
        obtain ⟨k, m, hkm, rfl, hrow, hps⟩ := hrel
        have HTR := hid (HT.out.below (hrow.out.behind HB1.out hg HB1.out.size))
        by_cases hk0 : k = 0
        · subst hk0
          have hnx := hid (HEND.out m (by omega) hps.out (.inl (by omega)))
          go_wp2_with (fail)
          go_quiet (fail)
          go_wp2_with (fail)
          go_roundw
          case rel => exact ⟨i + 1, by omega, by omega, by go_num, by rw [← hnx.out]; exact hrow.out.drewN _⟩
          case measure => simp [intOf]; omega
        · obtain ⟨j, hj⟩ : ∃ j, k = j + 1 := ⟨k - 1, by omega⟩
          have hml : (mid A x m T).length = n := by rw [mid_len (by omega)]; omega
          have c1 := hrow.out.at (i := k) (by rw [hml]; omega)
          have c0 := hrow.out.at (i := j) (by rw [hml]; omega)
          have f1 := hrow.out.ice k
          have f0 := hrow.out.ice j
          rw [mid_at (by omega)] at c1
          rw [mid_prev (by omega)] at c0
          have HE2 := hid (fun h => HEND.out m (by omega) hps.out (.inr h))
          have HPN := hid (fun (h : cx ≠ 0 ∧ cx < classS (A.getD m 0)) => (show ∀ y ∈ A.take (m + 1), cx ≠ 0 ∧ cx < classS y from by
            rw [HCX.out] at h ⊢
            exact pass_next (by omega) (by rw [← HCX.out]; exact hps.out) h))
          have HSW := hid (mid_swap (A := A) (T := T) (x := x) (m := m) (k := j) (by omega))
          rw [← hj] at HSW
          have HRW := hid hrow.out
          generalize hyd : A.getD m 0 = y at c0 HE2 HPN HSW
          have HY := hid (fun w h => refTClass B y w h)
          generalize classS y = cy at HY HE2 HPN
          have l1 : k < n := by omega
          have l0 : j < n := by omega
          have n1 : k ≠ j := by omega
          have n2 : j ≠ k := by omega
          have hd0 : decide (0 < k) = true := by rw [decide_eq_true_iff]; omega
          have ej : (k : Int) - 1 = (j : Int) := by omega
          have wj : IntKind.i64.wrap (j : Int) = (j : Int) := by rw [IntKind.wrap_i64]; have := HL.out; have := HN.out; omega
          have HJ := hid hj
          clear hrow hyd hj
          by_cases hx0 : cx = 0
          · have hnx := hid (HE2.out (fun h => h.1 hx0))
            go_wp2_with (fail)
            go_quiet (first | (go_at_call 22; exact quiet_same0 (HX.out _ (HTR.out.below (below_drewN _)))))
            go_wp2_with (fail)
            go_roundw
            case rel => exact ⟨i + 1, by omega, by omega, by go_num, by rw [← hnx.out]; exact HRW.out.drewN _⟩
            case measure => simp [intOf]; omega
          · have hb0 : (cx == 0) = false := by rw [beq_eq_false_iff_ne]; exact hx0
            by_cases hxy : cx < cy
            · have hq := hid (HPN.out ⟨hx0, hxy⟩)
              go_wp2_with (fail)
              go_quiet (first
                | (go_at_call 22; with_reducible exact quiet_same0 (HX.out _ (HTR.out.below (below_drewN _))))
                | (go_at_call 22; with_reducible exact quiet_same0 (HY.out _ (HTR.out.below (below_drewN _)))))
              go_wp2_with (fail)
              go_big_region
              all_goals go_wp2
              go_roundw
              case rel => exact ⟨j, m + 1, by have := HJ.out; omega, by go_num, by show RowI _ _ _ _ _; rw [← HSW.out]; exact RowI.swap (HRW.out.drewN _) (by rw [hml]; exact l1) (by rw [hml]; exact l0) y x, hq.out⟩
              case measure => simp [intOf]; have := HJ.out; omega
            · have hnx := hid (HE2.out (fun h => hxy h.2))
              go_wp2_with (fail)
              go_quiet (first
                | (go_at_call 22; with_reducible exact quiet_same0 (HX.out _ (HTR.out.below (below_drewN _))))
                | (go_at_call 22; with_reducible exact quiet_same0 (HY.out _ (HTR.out.below (below_drewN _)))))
              go_wp2_with (fail)
              go_roundw
              case rel => exact ⟨i + 1, by omega, by omega, by go_num, by rw [← hnx.out]; exact HRW.out.drewN _⟩
              case measure => simp [intOf]; omega
    · obtain rfl : i = n := by omega
      have hall := part_all (cl := classS) s (i := i) (by have := HN.out; omega)
      go_wp2_with (fail)
      go_ret
      refine ⟨_, rfl, ?_, hrow.out.behind HB1.out hg HB1.out.size⟩
      rw [← hall]
      have e := part_len (cl := classS) s i
      have := hrow.out.own (base := w.heap.size) (cap := cap) hg (by rw [e, ← HN.out]; exact HC.out) hcm
      rw [e, ← HN.out] at this
      exact this
end Go.Proofs.Ytialgjbponlipaa

/-! LawExact9 -/
namespace Go.Proofs.Ytialgjbponlipaa
open Go.RowKit

set_option maxHeartbeats 4000000 in
theorem walkExact9 (HI : OIsOk) (HP : OPutOk) (v : Value) (s : List Int) (w : World) (h : Sl .i64 w v s) :
    Calls Try.prog 3 #[v] w fun e w' => e = .returned (.bool true) ∧ Below w.heap.size w w' := by
  have HS := hid h
  have ml := h.len
  obtain ⟨a, cc, hv⟩ := h.form
  obtain ⟨n, hn⟩ : ∃ n, n = s.length := ⟨_, rfl⟩
  rw [← hn] at hv ml
  subst hv
  have HN := hid hn
  have HW := hid (fun w => lawWakes9 HI HP w)
  clear hn h
  by_cases hl : n ≤ 200
  · have H1 := hid (fun w h => keepTwinInts (.slice a n cc) s w h (by have := HN.out; omega))
    have H2 := hid (fun v w h => HI v s w h (by have := HN.out; omega))
    have H3 := hid (fun B w ht h => refOrdered9 B (.slice a n cc) s w ht h)
    have H4 := hid (fun v w h => HP v s w h (by have := HN.out; omega))
    have H5 := hid (fun B w ht h => refPut9 B (.slice a n cc) s w ht h (by have := HN.out; omega))
    generalize putG classS s = X at H4 H5
    generalize ordG classS s = D at H2 H3
    clear HI HP
    go_enter Try.func3, Try.ntmps3
    go_wp2_with (first
      | (have _u := HB8; clear _u; go_at_call 14; refine (HW.out _).mono ?_; rintro e w9 ⟨rfl, hb9⟩; have HB9 := hid (HB8.out.trans (hb9.mono HB8.out.size)); clear hb9)
      | (have _u := HB7; clear _u; go_at_call 11; refine (keepInts v2 (.slice a n cc) s s _ (HO2.out.sl.below HP7.out) (HS.out.below HB7.out)).mono ?_; rw [eqL_self]; rintro e w8 ⟨rfl, n8, hw8⟩; have HB8 := hid (show Below w.heap.size w w8 from by rw [hw8]; exact below_drewN' HB7.out n8); clear hw8)
      | (have _u := HB6; clear _u; go_at_call 11; refine (keepInts v5 v6 X X _ HO56.out.sl HO6.out.sl).mono ?_; rw [eqL_self]; rintro e w7 ⟨rfl, n7, hw7⟩; have HB7 := hid (show Below w.heap.size w w7 from by rw [hw7]; exact below_drewN' HB6.out n7); have HP7 := hid (show Below w2.heap.size w2 w7 from by rw [hw7]; exact below_drewN' HP6.out n7); clear hw7)
      | (have _u := HB5; clear _u; go_at_call 13; refine (H5.out B _ (HT.out.below HQ5.out) (HS.out.below HB5.out)).mono ?_; rintro e w6 ⟨v6, rfl, ho6, hb6⟩; have HO6 := hid ho6; have HO56 := hid (HO5.out.below hb6); have HB6 := hid (HB5.out.trans (hb6.mono HB5.out.size)); have HP6 := hid (HP5.out.trans (hb6.mono HP5.out.size)); clear ho6 hb6)
      | (have _u := HB4; clear _u; go_at_call 12; refine (H4.out v2 _ (HO2.out.sl.below HP4.out)).mono ?_; rintro e w5 ⟨v5, rfl, ho5, hb5⟩; have HO5 := hid ho5; have HB5 := hid (HB4.out.trans (hb5.mono HB4.out.size)); have HP5 := hid (HP4.out.trans (hb5.mono HP4.out.size)); have HQ5 := hid (HQ2.out.trans (HP5.out.mono HQ2.out.size)); clear ho5 hb5)
      | (have _u := HB3; clear _u; go_at_call 10; refine (H3.out B _ (HT.out.below HQ3.out) (HS.out.below HB3.out)).mono ?_; rintro e w4 ⟨rfl, hw4⟩; have HB4 := hid (show Below w.heap.size w w4 from by rw [← hw4]; exact HB3.out); have HP4 := hid (show Below w2.heap.size w2 w4 from by rw [← hw4]; exact HP3.out); clear hw4)
      | (have _u := HB2; clear _u; go_at_call 9; refine (H2.out v2 _ HO2.out.sl).mono ?_; rintro e w3 ⟨rfl, hb3⟩; have HB3 := hid (HB2.out.trans (hb3.mono HB2.out.size)); have HP3 := hid hb3; have HQ3 := hid (HQ2.out.trans (hb3.mono HQ2.out.size)); clear hb3)
      | (have _u := HB1; clear _u; go_at_call 8; refine (H1.out _ (HS.out.below HB1.out)).mono ?_; rintro e w2 ⟨v2, rfl, ho2, hb2⟩; have HO2 := hid ho2; have HB2 := hid (HB1.out.trans (hb2.mono HB1.out.size)); have HQ2 := hid hb2; clear ho2 hb2)
      | (go_at_call 7; refine (refAll6 _).mono ?_; rintro e w1 ⟨B, rfl, ht1, hb1⟩; have HT := hid ht1; have HB1 := hid hb1; clear ht1 hb1))
    go_ret
    exact ⟨by simp, HB9.out⟩
  · have hl2 : 200 < n := by omega
    clear HI HP hl
    go_enter Try.func3, Try.ntmps3
    go_wp2
    go_ret
    exact ⟨rfl, Below.refl _ _⟩
end Go.Proofs.Ytialgjbponlipaa

/-! LawParts9 -/
namespace Go.Proofs.Ytialgjbponlipaa
open Go.RowKit

set_option maxHeartbeats 4000000 in
theorem walkParts9 (HI : OIsOk) (HP : OPutOk) (va vb : Value) (a b : List Int) (w : World) (h1 : Sl .i64 w va a) (h2 : Sl .i64 w vb b) :
    Calls Try.prog 6 #[va, vb] w fun e w' => e = .returned (.bool true) ∧ Below w.heap.size w w' := by
  have HS1 := hid h1
  have HS2 := hid h2
  have m1 := h1.len
  have m2 := h2.len
  obtain ⟨a1, c1, hv1⟩ := h1.form
  obtain ⟨a2, c2, hv2, q2, -, hb2⟩ := h2
  obtain ⟨n1, hn1⟩ : ∃ n, n = a.length := ⟨_, rfl⟩
  obtain ⟨n2, hn2⟩ : ∃ n, n = b.length := ⟨_, rfl⟩
  rw [← hn1] at hv1 m1
  rw [← hn2] at hv2 m2 q2 hb2
  subst hv1 hv2
  have HN1 := hid hn1
  have HN2 := hid hn2
  have HBB := hid hb2
  have HW := hid (fun w => lawWakes9 HI HP w)
  clear hn1 hn2 h1 hb2
  by_cases hl1 : n1 ≤ 200
  · by_cases hl2 : n2 ≤ 200
    · have G1 := hid (fun w h => HP (.slice a1 n1 c1) a w h (by have := HN1.out; omega))
      have G2 := hid (fun w h => HP (.slice a2 n2 c2) b w h (by have := HN2.out; omega))
      have G3 := hid (fun v w h => HP v (a ++ b) w h (by rw [List.length_append]; have := HN1.out; have := HN2.out; omega))
      have G4 := hid (fun w h => keepTwinInts (.slice a1 n1 c1) a w h (by have := HN1.out; omega))
      have L1 := hid (show (putG classS a).length ≤ 1000000 by rw [put_len]; have := HN1.out; omega)
      have L2 := hid (show (putG classS b).length ≤ 1000000 by rw [put_len]; have := HN2.out; omega)
      by_cases h0 : n2 = 0
      · subst h0
        have hb : b = [] := List.eq_nil_of_length_eq_zero HN2.out.symm
        have hj : putG classS (a ++ b) = putG classS a ++ putG classS b := put_parts class_pos a (.inl hb)
        rw [hj] at G3
        generalize putG classS a = X at G1 G3 L1
        generalize putG classS b = Y at G2 G3 L2
        clear HI HP hj hb HBB q2
        go_enter Try.func6, Try.ntmps6
        go_wp2_with (first
          | (have _u := HB7; clear _u; go_at_call 14; refine (HW.out _).mono ?_; rintro e w8 ⟨rfl, hb8⟩; have HB8 := hid (HB7.out.trans (hb8.mono HB7.out.size)); clear hb8)
          | (have _u := HB6; clear _u; go_at_call 11; refine (keepInts v3 v6 (X ++ Y) (X ++ Y) _ HO36.out.sl HO6.out.sl).mono ?_; rw [eqL_self]; rintro e w7 ⟨rfl, n7, hw7⟩; have HB7 := hid (show Below w.heap.size w w7 from by rw [hw7]; exact below_drewN' HB6.out n7); clear hw7)
          | (have _u := HB5; clear _u; at_builtin; go_loud (refine wpList_app _ rfl _ _ 22 rfl .i64 w3.heap.size 3 8 Try.underlying22 Try.infoI64 _ X Y rfl HO45.out _ rfl HO5.out.sl (by have := L1.out; have := L2.out; unfold maxLen; omega) (by have := L1.out; have := L2.out; omega) HQ5.out.size ?_); intro v6 w6 ho6 hg6 hb6 hn6; have HO6 := hid ho6; have HO36 := hid (HO3.out.below (HQ5.out.trans hb6)); have HB6 := hid (HB3.out.trans ((HQ5.out.trans hb6).mono HB3.out.size)); clear hg6 hn6 ho6 hb6)
          | (have _u := HB4; clear _u; go_at_call 12; with_reducible refine (G2.out _ (HS2.out.below HB4.out)).mono ?_; rintro e w5 ⟨v5, rfl, ho5, hb5⟩; have HO5 := hid ho5; have HO45 := hid (HO4.out.below hb5); have HQ5 := hid (HQ4.out.trans (hb5.mono HQ4.out.size)); have HB5 := hid (HB4.out.trans (hb5.mono HB4.out.size)); clear ho5 hb5)
          | (have _u := HB3; clear _u; go_at_call 12; with_reducible refine (G1.out _ (HS1.out.below HB3.out)).mono ?_; rintro e w4 ⟨v4, rfl, ho4, hb4⟩; have HO4 := hid ho4; have HQ4 := hid hb4; have HB4 := hid (HB3.out.trans (hb4.mono HB3.out.size)); clear ho4 hb4)
          | (have _u := HB2; clear _u; go_at_call 12; with_reducible refine (G3.out v2 _ HO2.out.sl).mono ?_; rintro e w3 ⟨v3, rfl, ho3, hb3⟩; have HO3 := hid ho3; have HB3 := hid (HB2.out.trans (hb3.mono HB2.out.size)); clear ho3 hb3)
          | (have _u := HB1; clear _u; at_builtin; go_loud (refine wpList_app _ rfl _ _ 22 rfl .i64 w.heap.size 3 8 Try.underlying22 Try.infoI64 _ a b rfl HO1.out _ rfl (HS2.out.below HB1.out) (by have := HN1.out; have := HN2.out; unfold maxLen; omega) (by have := HN1.out; have := HN2.out; omega) HQ1.out.size ?_); intro v2 w2 ho2 hg2 hb2 hn2; have HO2 := hid ho2; have HB2 := hid (HQ1.out.trans hb2); clear hg2 hn2 ho2 hb2)
          | (go_at_call 8; refine (G4.out _ (HS1.out)).mono ?_; rintro e w1 ⟨v1, rfl, ho1, hb1⟩; have HO1 := hid ho1; have HQ1 := hid hb1; have HB1 := hid (hb1); clear ho1 hb1))
        go_ret
        exact ⟨rfl, HB8.out⟩
      · rcases HBB.out with hc | ⟨b1, o1, rfl, hb1, hc⟩
        · omega
        have d0 := hc 0 (by omega)
        have hz : ∃ z r, b = z :: r := by
          cases b with
          | nil => have := HN2.out; simp at this; omega
          | cons z r => exact ⟨z, r, rfl⟩
        obtain ⟨z, r, hz⟩ := hz
        have hz0 : b.getD 0 0 = z := by rw [hz]; rfl
        rw [hz0] at d0
        simp only [Nat.add_zero] at d0
        have h00 : 0 < n2 := by omega
        have HC := hid (fun w => ucdClass z w)
        have hj : classS z = 0 → putG classS (a ++ b) = putG classS a ++ putG classS b := fun h => put_parts class_pos a (.inr ⟨z, r, hz, h⟩)
        generalize classS z = cz at HC hj
        clear hb1 hc hz hz0 HBB q2
        by_cases hcz : cz = 0
        · rw [hj hcz] at G3
          subst hcz
          generalize putG classS a = X at G1 G3 L1
          generalize putG classS b = Y at G2 G3 L2
          clear HI HP hj
          go_enter Try.func6, Try.ntmps6
          go_wp2_with (first
            | (have _u := HB7; clear _u; go_at_call 14; refine (HW.out _).mono ?_; rintro e w8 ⟨rfl, hb8⟩; have HB8 := hid (HB7.out.trans (hb8.mono HB7.out.size)); clear hb8)
            | (have _u := HB6; clear _u; go_at_call 11; refine (keepInts v3 v6 (X ++ Y) (X ++ Y) _ HO36.out.sl HO6.out.sl).mono ?_; rw [eqL_self]; rintro e w7 ⟨rfl, n7, hw7⟩; have HB7 := hid (show Below w.heap.size w w7 from by rw [hw7]; exact below_drewN' HB6.out n7); clear hw7)
            | (have _u := HB5; clear _u; at_builtin; go_loud (refine wpList_app _ rfl _ _ 22 rfl .i64 w3.heap.size 3 8 Try.underlying22 Try.infoI64 _ X Y rfl HO45.out _ rfl HO5.out.sl (by have := L1.out; have := L2.out; unfold maxLen; omega) (by have := L1.out; have := L2.out; omega) HQ5.out.size ?_); intro v6 w6 ho6 hg6 hb6 hn6; have HO6 := hid ho6; have HO36 := hid (HO3.out.below (HQ5.out.trans hb6)); have HB6 := hid (HB3.out.trans ((HQ5.out.trans hb6).mono HB3.out.size)); clear hg6 hn6 ho6 hb6)
            | (have _u := HB4; clear _u; go_at_call 12; with_reducible refine (G2.out _ (HS2.out.below HB4.out)).mono ?_; rintro e w5 ⟨v5, rfl, ho5, hb5⟩; have HO5 := hid ho5; have HO45 := hid (HO4.out.below hb5); have HQ5 := hid (HQ4.out.trans (hb5.mono HQ4.out.size)); have HB5 := hid (HB4.out.trans (hb5.mono HB4.out.size)); clear ho5 hb5)
            | (have _u := HB3; clear _u; go_at_call 12; with_reducible refine (G1.out _ (HS1.out.below HB3.out)).mono ?_; rintro e w4 ⟨v4, rfl, ho4, hb4⟩; have HO4 := hid ho4; have HQ4 := hid hb4; have HB4 := hid (HB3.out.trans (hb4.mono HB3.out.size)); clear ho4 hb4)
            | (have _u := HB2; clear _u; go_at_call 12; with_reducible refine (G3.out v2 _ HO2.out.sl).mono ?_; rintro e w3 ⟨v3, rfl, ho3, hb3⟩; have HO3 := hid ho3; have HB3 := hid (HB2.out.trans (hb3.mono HB2.out.size)); clear ho3 hb3)
            | (have _u := HB1; clear _u; at_builtin; go_loud (refine wpList_app _ rfl _ _ 22 rfl .i64 w0.heap.size 3 8 Try.underlying22 Try.infoI64 _ a b rfl HO1.out _ rfl (HS2.out.below HB1.out) (by have := HN1.out; have := HN2.out; unfold maxLen; omega) (by have := HN1.out; have := HN2.out; omega) HQ1.out.size ?_); intro v2 w2 ho2 hg2 hb2 hn2; have HO2 := hid ho2; have HB2 := hid (HB0.out.trans ((HQ1.out.trans hb2).mono HB0.out.size)); clear hg2 hn2 ho2 hb2)
            | (go_at_call 8; refine (G4.out _ (HS1.out.below HB0.out)).mono ?_; rintro e w1 ⟨v1, rfl, ho1, hb1⟩; have HO1 := hid ho1; have HQ1 := hid hb1; have HB1 := hid (HB0.out.trans (hb1.mono HB0.out.size)); clear ho1 hb1)
            | (go_at_call 15; refine (HC.out _).mono ?_; rintro e w0 ⟨rfl, hb0⟩; have HB0 := hid hb0; clear hb0))
          go_ret
          exact ⟨rfl, HB8.out⟩
        · have hcb : (cz != 0) = true := bne_iff_ne.2 hcz
          clear HI HP hj G1 G2 G3
          go_enter Try.func6, Try.ntmps6
          go_wp2_with (go_at_call 15; refine (HC.out _).mono ?_; rintro e w0 ⟨rfl, hb0⟩; have HB0 := hid hb0; clear hb0)
          go_ret
          exact ⟨rfl, HB0.out⟩
    · have hl : 200 < n2 := by omega
      clear HI HP hl2 HBB q2
      go_enter Try.func6, Try.ntmps6
      go_wp2
      go_ret
      exact ⟨rfl, Below.refl _ _⟩
  · have hl : 200 < n1 := by omega
    clear HI HP hl1 HBB q2
    go_enter Try.func6, Try.ntmps6
    go_wp2
    go_ret
    exact ⟨rfl, Below.refl _ _⟩
end Go.Proofs.Ytialgjbponlipaa

/-! Walks9 -/
namespace Go.Proofs.Ytialgjbponlipaa

theorem lawKeeps9 (v : Value) (s : List Int) (w : World) (h : Sl .i64 w v s) (_hi : s.all inI = true) :
    Calls Try.prog 5 #[v] w fun e w' => e = .returned (.bool true) ∧ Go.RowKit.Below w.heap.size w w' := walkKeeps9 orderIs orderPut v s w h
theorem lawStays9 (v : Value) (s : List Int) (w : World) (h : Sl .i64 w v s) (_hi : s.all inI = true) :
    Calls Try.prog 4 #[v] w fun e w' => e = .returned (.bool true) ∧ Go.RowKit.Below w.heap.size w w' := walkStays9 orderIs orderPut v s w h
theorem lawExact9 (v : Value) (s : List Int) (w : World) (h : Sl .i64 w v s) (_hi : s.all inI = true) :
    Calls Try.prog 3 #[v] w fun e w' => e = .returned (.bool true) ∧ Go.RowKit.Below w.heap.size w w' := walkExact9 orderIs orderPut v s w h
theorem lawParts9 (va : Value) (a : List Int) (vb : Value) (b : List Int) (w : World) (h1 : Sl .i64 w va a) (_h1 : a.all inI = true) (h2 : Sl .i64 w vb b) (_h2 : b.all inI = true) :
    Calls Try.prog 6 #[va, vb] w fun e w' => e = .returned (.bool true) ∧ Go.RowKit.Below w.heap.size w w' := walkParts9 orderIs orderPut va vb a b w h1 h2
end Go.Proofs.Ytialgjbponlipaa

/-! OpenB -/
namespace Go.Proofs.Ytialgjbponlipaa
open Go.ChangeShapes Go.WideShapes Go.ChangeAt Go.RowKit Go.Deep
set_option linter.unusedVariables false
section
variable {H : Type} {enc : TypeId × Value → H} {P : Program} {w : World} {base : Nat} {spare : Nat → Bool} {held : Bool} {r : Reach} {b0 : Nat} {v : Value} {d : DataW H} {p : List MemPlace}

theorem wf_u8 {x : Int} (h : (Lit.int .u8 x).wf = true) : 0 ≤ x ∧ x ≤ 255 := by
  simpa [Lit.wf, IntKind.min, IntKind.max, IntKind.signed, IntKind.bits] using h
theorem wf_i64 {x : Int} (h : (Lit.int .i64 x).wf = true) : -9223372036854775808 ≤ x ∧ x ≤ 9223372036854775807 := by
  simpa [Lit.wf, IntKind.min, IntKind.max, IntKind.signed, IntKind.bits] using h

theorem open_bytes {t e : TypeId} (ht : P.underlying t = some (.slice e)) (he : P.underlying e = some (.int .u8)) (hc : P.cellsOf e = 1) (hv : Value.okWide P w r b0 t v) (h : DataW.Trod enc P w base (fun _ => true) held t v d p) :
    ∃ xs, Sl .u8 w v xs ∧ U8 xs := by
  obtain ⟨a0, len0, cap0, rfl⟩ := okWide_slice ht hv
  obtain ⟨fuel, hf⟩ := h
  rcases open_ints ht he hc hf with ⟨hcs, _⟩ | ⟨x, l, c, zs, hcs, _, hl, hm, hz, _, hcell, hwz⟩
  · simp [Value.cells] at hcs
    obtain ⟨rfl, rfl, rfl⟩ := hcs
    exact ⟨[], ⟨none, 0, rfl, Nat.le_refl _, by unfold maxLen; omega, .inl rfl⟩, U8.nil⟩
  · simp [Value.cells] at hcs
    obtain ⟨rfl, rfl, rfl⟩ := hcs
    have hzl : zs.length = cap0 := by rw [hz]; simp
    have hlen : (zs.take len0).length = len0 := by simp; omega
    refine ⟨zs.take len0, ⟨some x, cap0, by rw [hlen], by rw [hlen]; exact hl, hm, ?_⟩, fun n hn => wf_u8 (hwz n (List.mem_of_mem_take hn))⟩
    rcases Nat.eq_zero_or_pos zs.length with h0 | h0
    · exact .inl (by omega)
    · obtain ⟨b, off, spot⟩ := x
      have hc0 := hcell 0 h0
      have hspot : spot = none := by simpa [Addr.add] using World.cell?_spot hc0
      subst hspot
      refine .inr ⟨b, off, rfl, fun _ => World.block_lt_of_cell? w _ hc0, fun i hi => ?_⟩
      rw [hlen] at hi
      have := hcell i (by omega)
      rw [show (⟨b, off, none⟩ : Addr).add i = ⟨b, off + i, none⟩ by unfold Addr.add; split <;> simp_all] at this
      rw [this]
      simp [List.getD_eq_getElem?_getD, hi]

end
end Go.Proofs.Ytialgjbponlipaa

/-! OpenL -/
namespace Go.Proofs.Ytialgjbponlipaa
open Go.ChangeShapes Go.WideShapes Go.ChangeAt Go.RowKit Go.Deep
set_option linter.unusedVariables false
section
variable {H : Type} {enc : TypeId × Value → H} {P : Program} {w : World} {base : Nat} {spare : Nat → Bool} {held : Bool} {r : Reach} {b0 : Nat} {v : Value} {d : DataW H} {p : List MemPlace}

theorem open_intl {t e : TypeId} (ht : P.underlying t = some (.slice e)) (he : P.underlying e = some (.int .i64)) (hc : P.cellsOf e = 1) (hv : Value.okWide P w r b0 t v) (h : DataW.Trod enc P w base (fun _ => true) held t v d p) :
    ∃ xs, Sl .i64 w v xs ∧ ∀ x ∈ xs, -9223372036854775808 ≤ x ∧ x ≤ 9223372036854775807 := by
  obtain ⟨a0, len0, cap0, rfl⟩ := okWide_slice ht hv
  obtain ⟨fuel, hf⟩ := h
  rcases open_ints ht he hc hf with ⟨hcs, _⟩ | ⟨x, l, c, zs, hcs, _, hl, hm, hz, _, hcell, hwz⟩
  · simp [Value.cells] at hcs
    obtain ⟨rfl, rfl, rfl⟩ := hcs
    exact ⟨[], ⟨none, 0, rfl, Nat.le_refl _, by unfold maxLen; omega, .inl rfl⟩, (fun _ h => by cases h)⟩
  · simp [Value.cells] at hcs
    obtain ⟨rfl, rfl, rfl⟩ := hcs
    have hzl : zs.length = cap0 := by rw [hz]; simp
    have hlen : (zs.take len0).length = len0 := by simp; omega
    refine ⟨zs.take len0, ⟨some x, cap0, by rw [hlen], by rw [hlen]; exact hl, hm, ?_⟩, fun n hn => wf_i64 (hwz n (List.mem_of_mem_take hn))⟩
    rcases Nat.eq_zero_or_pos zs.length with h0 | h0
    · exact .inl (by omega)
    · obtain ⟨b, off, spot⟩ := x
      have hc0 := hcell 0 h0
      have hspot : spot = none := by simpa [Addr.add] using World.cell?_spot hc0
      subst hspot
      refine .inr ⟨b, off, rfl, fun _ => World.block_lt_of_cell? w _ hc0, fun i hi => ?_⟩
      rw [hlen] at hi
      have := hcell i (by omega)
      rw [show (⟨b, off, none⟩ : Addr).add i = ⟨b, off + i, none⟩ by unfold Addr.add; split <;> simp_all] at this
      rw [this]
      simp [List.getD_eq_getElem?_getD, hi]

theorem open_inl {t e : TypeId} (ht : P.underlying t = some (.slice e)) (he : P.underlying e = some (.int .i64)) (hc : P.cellsOf e = 1) (hv : Value.okWide P w r b0 t v) (h : DataW.Trod enc P w base (fun _ => true) held t v d p) :
    ∃ xs : List Int, Sl .i64 w v xs ∧ xs.all inI = true := by
  obtain ⟨xs, h1, h2⟩ := open_intl ht he hc hv h
  exact ⟨xs, h1, List.all_eq_true.2 fun x hx => inI_of (h2 x hx)⟩
end
end Go.Proofs.Ytialgjbponlipaa
