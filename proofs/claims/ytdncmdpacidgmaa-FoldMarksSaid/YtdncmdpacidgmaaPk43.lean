/- Several texts in one: RefSets2, RefSets3, StabMath, ItRow, ItCmp, ItS1, Stab1, Stab2, Stab3, Stab4, Stab5, Stab6, Stab7, Stab8. -/
import Derived.Test.YtdncmdpacidgmaaPk11
import Derived.Test.YtdncmdpacidgmaaPk42
import Derived.Test.YtdncmdpacidgmaaPk5
import Derived.Test.YtdncmdpacidgmaaPk3
import Derived.BigRegion
import Derived.Deep.DeepCutAuto
/-! RefSets2 -/
namespace Go.Proofs.Ytdncmdpacidgmaa
open Go.RowKit

end Go.Proofs.Ytdncmdpacidgmaa

/-! RefSets3 -/
namespace Go.Proofs.Ytdncmdpacidgmaa
open Go.RowKit

def castL (p : List Nat) : List Int := List.map (fun n : Nat => (n : Int)) p
theorem castL_len (p : List Nat) : (castL p).length = p.length := by simp [castL]
theorem castL_put (p : List Nat) (j k : Nat) : (castL p).take j ++ [(k : Int)] ++ (castL p).drop j = castL (p.take j ++ k :: p.drop j) := by simp [castL]
theorem castL_getD (p : List Nat) (i : Nat) : (castL p).getD i 0 = (p.getD i 0 : Nat) := by
  rw [List.getD_eq_getElem?_getD, List.getD_eq_getElem?_getD, castL, List.getElem?_map]
  cases p[i]? <;> rfl
theorem castL_inj : ∀ {p q : List Nat}, castL p = castL q → p = q
  | [], [], _ => rfl
  | [], _ :: _, h => by simp [castL] at h
  | _ :: _, [], h => by simp [castL] at h
  | a :: p, b :: q, h => by
    simp only [castL, List.map_cons, List.cons.injEq] at h
    rw [castL_inj (p := p) (q := q) h.2, Int.ofNat.inj h.1]

/-- the tail of a round: what was read is put in its place -/
theorem place_mem {l : List (List Int)} {n i : Nat} {p : List Nat} (h : IsPl l n p) (hi : i < p.length) : p.getD i 0 < n := by
  rw [List.getD_eq_getElem?_getD, List.getElem?_eq_getElem hi]
  exact h.lt (List.getElem_mem hi)

end Go.Proofs.Ytdncmdpacidgmaa

/-! StabMath -/
namespace Go.Proofs.Ytdncmdpacidgmaa

/-- what stands at i and at j, exchanged -/
def sw (p : List Nat) (i j : Nat) : List Nat := (p.set i (p.getD j 0)).set j (p.getD i 0)
theorem sw_len (p : List Nat) (i j : Nat) : (sw p i j).length = p.length := by simp [sw]
theorem set_mid (A B : List Nat) (x y : Nat) : (A ++ x :: B).set A.length y = A ++ y :: B := by simp
theorem getD_mid (A B : List Nat) (x : Nat) : (A ++ x :: B).getD A.length 0 = x := by simp [List.getD_eq_getElem?_getD]
theorem sw_lists (A B C : List Nat) (x y : Nat) : sw (A ++ x :: (B ++ y :: C)) A.length (A.length + 1 + B.length) = A ++ y :: (B ++ x :: C) := by
  have e : A ++ x :: (B ++ y :: C) = (A ++ x :: B) ++ y :: C := by simp
  have hl : A.length + 1 + B.length = (A ++ x :: B).length := by simp; omega
  have g1 : (A ++ x :: (B ++ y :: C)).getD (A.length + 1 + B.length) 0 = y := by rw [e, hl, getD_mid]
  have g2 : (A ++ x :: (B ++ y :: C)).getD A.length 0 = x := getD_mid A _ x
  unfold sw
  rw [g1, g2, set_mid]
  have e' : A ++ y :: (B ++ y :: C) = (A ++ y :: B) ++ y :: C := by simp
  have hl' : A.length + 1 + B.length = (A ++ y :: B).length := by simp; omega
  rw [e', hl', set_mid]
  simp
theorem sw_next (A C : List Nat) (x y : Nat) : sw (A ++ x :: y :: C) A.length (A.length + 1) = A ++ y :: x :: C := sw_lists A [] C x y
theorem sw_turn (p : List Nat) {i j : Nat} (h : i ≠ j) : sw p i j = sw p j i := by
  unfold sw
  exact (List.set_comm _ _ h)
theorem sw_prev (A C : List Nat) (x y : Nat) : sw (A ++ x :: y :: C) (A.length + 1) A.length = A ++ y :: x :: C := by
  rw [sw_turn _ (by omega), sw_next]

/-- the first k of two runs, exchanged one by one -/
def swR (p : List Nat) (a b : Nat) : Nat → List Nat
  | 0 => p
  | k + 1 => sw (swR p a b k) (a + k) (b + k)
theorem swR_len (p : List Nat) (a b : Nat) : ∀ k, (swR p a b k).length = p.length
  | 0 => rfl
  | k + 1 => by rw [swR, sw_len, swR_len p a b k]
theorem snoc_of {U : List Nat} {k : Nat} (h : U.length = k + 1) : ∃ U1 u, U = U1 ++ [u] := by
  have hn : U ≠ [] := by rintro rfl; simp at h
  exact ⟨U.dropLast, U.getLast hn, (List.dropLast_concat_getLast hn).symm⟩
theorem swR_lists (A B C : List Nat) : ∀ (k : Nat) (U V : List Nat), U.length = k → V.length = k → ∀ (U' V' : List Nat), U'.length = V'.length →
    swR (A ++ (U ++ U') ++ B ++ (V ++ V') ++ C) A.length (A.length + (U.length + U'.length) + B.length) k = A ++ (V ++ U') ++ B ++ (U ++ V') ++ C
  | 0, U, V, hU, hV, U', V', _ => by
    obtain rfl := List.eq_nil_of_length_eq_zero hU
    obtain rfl := List.eq_nil_of_length_eq_zero hV
    rfl
  | k + 1, U, V, hU, hV, U', V', h' => by
    obtain ⟨U1, u, rfl⟩ := snoc_of hU
    obtain ⟨V1, v, rfl⟩ := snoc_of hV
    simp only [List.length_append, List.length_cons, List.length_nil] at hU hV
    have ih := swR_lists A B C k U1 V1 (by omega) (by omega) (u :: U') (v :: V') (by simp [h'])
    have e0 : A ++ (U1 ++ [u] ++ U') ++ B ++ (V1 ++ [v] ++ V') ++ C = A ++ (U1 ++ u :: U') ++ B ++ (V1 ++ v :: V') ++ C := by simp
    have l0 : A.length + ((U1 ++ [u]).length + U'.length) + B.length = A.length + (U1.length + (u :: U').length) + B.length := by simp; omega
    rw [swR, e0, l0, ih]
    have e1 : A ++ (V1 ++ u :: U') ++ B ++ (U1 ++ v :: V') ++ C = (A ++ V1) ++ u :: ((U' ++ B ++ U1) ++ v :: (V' ++ C)) := by simp
    have l1 : A.length + k = (A ++ V1).length := by simp; omega
    have l2 : A.length + (U1.length + (u :: U').length) + B.length + k = (A ++ V1).length + 1 + (U' ++ B ++ U1).length := by simp; omega
    rw [e1, l1, l2, sw_lists]
    simp
theorem swR_runs (A U B V C : List Nat) (h : U.length = V.length) : swR (A ++ U ++ B ++ V ++ C) A.length (A.length + U.length + B.length) U.length = A ++ V ++ B ++ U ++ C := by
  have := swR_lists A B C U.length U V rfl h.symm [] [] rfl
  simpa using this

/-! ### places in joined lists -/
theorem at_left {A L T : List Nat} {i : Nat} (h0 : A.length ≤ i) (h1 : i < A.length + L.length) : (A ++ L ++ T).getD i 0 = L.getD (i - A.length) 0 := by
  simp only [List.getD_eq_getElem?_getD]
  rw [List.getElem?_append_left (by simp; omega), List.getElem?_append_right h0]
theorem at_right {A L R C : List Nat} {i : Nat} (h0 : A.length + L.length ≤ i) (h1 : i < A.length + L.length + R.length) : (A ++ L ++ R ++ C).getD i 0 = R.getD (i - (A.length + L.length)) 0 := by
  have := @at_left (A ++ L) R C i (by simp; omega) (by simp; omega)
  simpa using this
theorem getD_mem {L : List Nat} {i : Nat} (h : i < L.length) : L.getD i 0 ∈ L := by
  rw [List.getD_eq_getElem?_getD, List.getElem?_eq_getElem h]
  exact List.getElem_mem h
theorem mem_getD {L : List Nat} {x : Nat} (h : x ∈ L) : ∃ i, i < L.length ∧ L.getD i 0 = x := by
  obtain ⟨i, hi, rfl⟩ := List.getElem_of_mem h
  exact ⟨i, hi, by rw [List.getD_eq_getElem?_getD, List.getElem?_eq_getElem hi]; rfl⟩
theorem mem_take_getD {L : List Nat} {x t : Nat} (h : x ∈ L.take t) : ∃ i, i < t ∧ i < L.length ∧ L.getD i 0 = x := by
  obtain ⟨i, hi, rfl⟩ := List.getElem_of_mem h
  rw [List.length_take] at hi
  exact ⟨i, by omega, by omega, by rw [List.getD_eq_getElem?_getD, List.getElem?_eq_getElem (by omega)]; simp⟩
theorem mem_drop_getD {L : List Nat} {x t : Nat} (h : x ∈ L.drop t) : ∃ i, t ≤ i ∧ i < L.length ∧ L.getD i 0 = x := by
  obtain ⟨i, hi, rfl⟩ := List.getElem_of_mem h
  rw [List.length_drop] at hi
  exact ⟨t + i, by omega, by omega, by rw [List.getD_eq_getElem?_getD, List.getElem?_eq_getElem (by omega)]; simp⟩

/-! ### in order -/
/-- a is not behind b -/
def ile (l : List (List Int)) (i j : Nat) : Prop := i = j ∨ ilt l i j
theorem ilt_trans {l : List (List Int)} {i j k : Nat} (h1 : ilt l i j) (h2 : ilt l j k) : ilt l i k := by
  have t := cmpS_trans (rowAt l i) (rowAt l j) (rowAt l k)
  unfold ilt at h1 h2 ⊢
  have t1 := t (by omega) (by omega)
  omega
theorem ile_trans {l : List (List Int)} {i j k : Nat} (h1 : ile l i j) (h2 : ilt l j k) : ilt l i k := by
  rcases h1 with rfl | h1
  · exact h2
  · exact ilt_trans h1 h2
theorem ile_trans' {l : List (List Int)} {i j k : Nat} (h1 : ilt l i j) (h2 : ile l j k) : ilt l i k := by
  rcases h2 with rfl | h2
  · exact h1
  · exact ilt_trans h1 h2
theorem pw_le {l : List (List Int)} {L : List Nat} (h : L.Pairwise (ilt l)) {i j : Nat} (hij : i ≤ j) (hj : j < L.length) : ile l (L.getD i 0) (L.getD j 0) := by
  rcases Nat.lt_or_ge i j with h1 | h1
  · right
    have := List.pairwise_iff_getElem.1 h i j (by omega) hj h1
    rw [List.getD_eq_getElem?_getD, List.getD_eq_getElem?_getD, List.getElem?_eq_getElem (by omega), List.getElem?_eq_getElem hj]
    exact this
  · obtain rfl : i = j := by omega
    exact .inl rfl
/-- y is compared with x, and y's number is the greater: only ahead where its row is -/
theorem cmp_lt {l : List (List Int)} {x y : Nat} (h : x < y) : cmpS (rowAt l y) (rowAt l x) < 0 ↔ ilt l y x := by
  unfold ilt
  omega
theorem cmp_ge {l : List (List Int)} {x y : Nat} (h : x < y) : ¬ cmpS (rowAt l y) (rowAt l x) < 0 ↔ ilt l x y := by
  have := cmpS_turn (rowAt l x) (rowAt l y)
  unfold ilt
  omega

/-- one put among others that are in order -/
theorem pw_put {l : List (List Int)} {R : List Nat} {x t : Nat} (h : R.Pairwise (ilt l)) (ht : t ≤ R.length) (h1 : t = 0 ∨ ilt l (R.getD (t - 1) 0) x) (h2 : t = R.length ∨ ilt l x (R.getD t 0)) :
    (R.take t ++ x :: R.drop t).Pairwise (ilt l) := by
  rw [List.pairwise_append, List.pairwise_cons]
  have hb : ∀ a ∈ R.take t, ilt l a x := fun a ha => by
    obtain ⟨i, hi, hi2, rfl⟩ := mem_take_getD ha
    exact ile_trans (pw_le h (show i ≤ t - 1 by omega) (by omega)) (by rcases h1 with h1 | h1; omega; exact h1)
  have ha : ∀ a ∈ R.drop t, ilt l x a := fun a ha => by
    obtain ⟨i, hi, hi2, rfl⟩ := mem_drop_getD ha
    exact ile_trans' (by rcases h2 with h2 | h2; omega; exact h2) (pw_le h hi hi2)
  refine ⟨h.sublist (List.take_sublist ..), ⟨ha, h.sublist (List.drop_sublist ..)⟩, fun a h3 b h4 => ?_⟩
  rcases List.mem_cons.1 h4 with rfl | h4
  · exact hb a h3
  · exact ilt_trans (hb a h3) (ha b h4)
theorem put_perm (R : List Nat) (x t : Nat) : (R.take t ++ x :: R.drop t).Perm (x :: R) := by
  refine List.perm_middle.trans ?_
  rw [List.take_append_drop]

/-- the four parts of a cut merge -/
theorem pw_join {l : List (List Int)} {M1 M2 L1 L2 R1 R2 : List Nat} (h1 : M1.Perm (L1 ++ R1)) (h2 : M2.Perm (L2 ++ R2)) (p1 : M1.Pairwise (ilt l)) (p2 : M2.Pairwise (ilt l))
    (a : ∀ x ∈ L1, ∀ y ∈ L2, ilt l x y) (b : ∀ x ∈ L1, ∀ y ∈ R2, ilt l x y) (c : ∀ x ∈ R1, ∀ y ∈ L2, ilt l x y) (d : ∀ x ∈ R1, ∀ y ∈ R2, ilt l x y) : (M1 ++ M2).Pairwise (ilt l) := by
  rw [List.pairwise_append]
  refine ⟨p1, p2, fun x hx y hy => ?_⟩
  rcases List.mem_append.1 (h1.mem_iff.1 hx) with hx | hx <;> rcases List.mem_append.1 (h2.mem_iff.1 hy) with hy | hy
  · exact a x hx y hy
  · exact b x hx y hy
  · exact c x hx y hy
  · exact d x hx y hy
theorem perm_join {M1 M2 L1 L2 R1 R2 : List Nat} (h1 : M1.Perm (L1 ++ R1)) (h2 : M2.Perm (L2 ++ R2)) : (M1 ++ M2).Perm (L1 ++ L2 ++ (R1 ++ R2)) := by
  refine (h1.append h2).trans ?_
  rw [List.append_assoc, List.append_assoc]
  refine List.Perm.append_left L1 ?_
  rw [← List.append_assoc, ← List.append_assoc]
  exact List.Perm.append_right R2 List.perm_append_comm
theorem cut_rel {R : Nat → Nat → Prop} {L : List Nat} (h : L.Pairwise R) (t : Nat) : ∀ x ∈ L.take t, ∀ y ∈ L.drop t, R x y := by
  rw [← List.take_append_drop t L, List.pairwise_append] at h
  exact h.2.2
end Go.Proofs.Ytdncmdpacidgmaa

/-! ItRow -/
namespace Go.Proofs.Ytdncmdpacidgmaa
open Go.RowKit

def noIt : Int × Int := (0, 0)
/-- items at their places, as cells -/
def icv (it : List (Int × Int)) : List Nat → List Value
  | [] => []
  | k :: p => .int .i64 (it.getD k noIt).1 :: .int .i64 (it.getD k noIt).2 :: icv it p
theorem icv_len (it : List (Int × Int)) : ∀ p, (icv it p).length = p.length * 2
  | [] => rfl
  | k :: p => by rw [icv, List.length_cons, List.length_cons, icv_len it p, List.length_cons]; omega
theorem icv_app (it : List (Int × Int)) : ∀ p q, icv it (p ++ q) = icv it p ++ icv it q
  | [], _ => rfl
  | k :: p, q => by rw [List.cons_append, icv, icv, icv_app it p q]; rfl
theorem icv_at (it : List (Int × Int)) : ∀ {p : List Nat} {i : Nat}, i < p.length → (icv it p)[i * 2]? = some (.int .i64 (it.getD (p.getD i 0) noIt).1) ∧ (icv it p)[i * 2 + 1]? = some (.int .i64 (it.getD (p.getD i 0) noIt).2)
  | [], _, h => by simp at h
  | k :: p, 0, _ => by simp [icv]
  | k :: p, i + 1, h => by
    have ih := icv_at it (p := p) (i := i) (by simpa using h)
    rw [icv, show (i + 1) * 2 = i * 2 + 2 by omega]
    simpa using ih
theorem icv_set (it : List (Int × Int)) (k : Nat) : ∀ (p : List Nat) (i : Nat), ((icv it p).set (i * 2) (.int .i64 (it.getD k noIt).1)).set (i * 2 + 1) (.int .i64 (it.getD k noIt).2) = icv it (p.set i k)
  | [], _ => rfl
  | j :: p, 0 => by simp [icv]
  | j :: p, i + 1 => by
    have ih := icv_set it k p i
    rw [icv, show (i + 1) * 2 = i * 2 + 2 by omega, show i * 2 + 2 + 1 = i * 2 + 1 + 2 by omega, List.set_cons_succ, List.set_cons_succ, List.set_cons_succ, List.set_cons_succ, ih, List.set_cons_succ, icv]

/-- block g holds, from cell off on, the items it at the places p -/
def Rit0 (it : List (Int × Int)) (g off : Nat) (pre post : List Value) (p : List Nat) (w : World) : Prop := Box 99 (pre ++ icv it p ++ post) g w ∧ off = pre.length
/-- the same; all else is as it was in w -/
def Rit (it : List (Int × Int)) (g off : Nat) (pre post : List Value) (w : World) (p : List Nat) (wr : World) : Prop := Rit0 it g off pre post p wr ∧ w.grownBy wr (some g)

variable {it : List (Int × Int)} {g off : Nat} {pre post : List Value} {w wr : World} {p : List Nat}
theorem Rit.drewN (h : Rit it g off pre post w p wr) (n : Nat) : Rit it g off pre post w p (wr.drewN n) :=
  ⟨h.1, ⟨h.2.os, h.2.tape, h.2.output, h.2.size, h.2.block⟩⟩
theorem Rit.trans {w1 w2 : World} {q : List Nat} (h : Rit it g off pre post w p w1) (k : Rit it g off pre post w1 q w2) : Rit it g off pre post w q w2 :=
  ⟨k.1, ⟨k.2.os.trans h.2.os, k.2.tape.trans h.2.tape, k.2.output.trans h.2.output, Nat.le_trans h.2.size k.2.size, fun i hi hn => (k.2.block i (Nat.lt_of_lt_of_le hi h.2.size) hn).trans (h.2.block i hi hn)⟩⟩
theorem Rit.refl (h : Rit0 it g off pre post p w) : Rit it g off pre post w p w := ⟨h, rfl, rfl, rfl, Nat.le_refl _, fun _ _ _ => rfl⟩
theorem Rit0.below (h : Rit0 it g off pre post p w) (hb : Below w.heap.size w wr) : Rit0 it g off pre post p wr := ⟨h.1.below hb h.1.lt, h.2⟩
theorem Rit.below {w2 : World} (h : Rit it g off pre post w p wr) (hb : Below wr.heap.size wr w2) : Rit it g off pre post w p w2 :=
  h.trans ⟨h.1.below hb, ⟨hb.os, hb.tape, hb.output, hb.size, fun k hk _ => hb.block k hk⟩⟩
theorem Rit.swap (h : Rit it g off pre post w p wr) (i j : Nat) {xn xc yn yc : Int} (hi : i < p.length) (hj : j < p.length) (h1 : xn = (it.getD (p.getD i 0) noIt).1) (h2 : xc = (it.getD (p.getD i 0) noIt).2) (h3 : yn = (it.getD (p.getD j 0) noIt).1) (h4 : yc = (it.getD (p.getD j 0) noIt).2) :
    Rit it g off pre post w (sw p i j) ((((wr.setCell ⟨g, off + i * 2, none⟩ (.int .i64 yn)).setCell ⟨g, off + i * 2 + 1, none⟩ (.int .i64 yc)).setCell ⟨g, off + j * 2, none⟩ (.int .i64 xn)).setCell ⟨g, off + j * 2 + 1, none⟩ (.int .i64 xc)) := by
  subst h1 h2 h3 h4
  have key : ∀ (q : List Nat) (i k : Nat) (w2 : World), i < q.length → Rit it g off pre post w q w2 → Rit it g off pre post w (q.set i k) ((w2.setCell ⟨g, off + i * 2, none⟩ (.int .i64 (it.getD k noIt).1)).setCell ⟨g, off + i * 2 + 1, none⟩ (.int .i64 (it.getD k noIt).2)) := fun q i k w2 hi h => by
    refine ⟨⟨?_, h.1.2⟩, grow_set1 (grow_set1 h.2 _ _) _ _⟩
    have hb := (h.1.1.set (off + i * 2) (.int .i64 (it.getD k noIt).1)).set (off + i * 2 + 1) (.int .i64 (it.getD k noIt).2)
    have hl := icv_len it q
    have ho := h.1.2
    rw [List.append_assoc, List.set_append_right _ _ (by omega), List.set_append_right _ _ (by omega), List.set_append_left _ _ (by omega), List.set_append_left _ _ (by rw [List.length_set]; omega), show off + i * 2 - pre.length = i * 2 by omega, show off + i * 2 + 1 - pre.length = i * 2 + 1 by omega, icv_set, ← List.append_assoc] at hb
    exact hb
  have a := key p i (p.getD j 0) wr hi h
  exact key _ j (p.getD i 0) _ (by rw [List.length_set]; exact hj) a
theorem Rit.at (h : Rit it g off pre post w p wr) {i : Nat} (hi : i < p.length) : wr.cell? ⟨g, off + i * 2, none⟩ = some (.int .i64 (it.getD (p.getD i 0) noIt).1) ∧ wr.cell? ⟨g, off + i * 2 + 1, none⟩ = some (.int .i64 (it.getD (p.getD i 0) noIt).2) := by
  have hl := icv_len it p
  have ho := h.1.2
  have a := icv_at it hi
  refine ⟨?_, ?_⟩
  · rw [h.1.1.cell, List.append_assoc, List.getElem?_append_right (by omega), List.getElem?_append_left (by omega), show off + i * 2 - pre.length = i * 2 by omega]
    exact a.1
  · rw [h.1.1.cell, List.append_assoc, List.getElem?_append_right (by omega), List.getElem?_append_left (by omega), show off + i * 2 + 1 - pre.length = i * 2 + 1 by omega]
    exact a.2
theorem Rit.ice (h : Rit it g off pre post w p wr) (i : Nat) : wr.frozen? ⟨g, i, none⟩ = false := h.1.1.ice i

/-- the classes, as rows of one number each -/
def lcl (it : List (Int × Int)) : List (List Int) := it.map fun x => [x.2]
theorem lcl_len (it : List (Int × Int)) : (lcl it).length = it.length := by simp [lcl]
theorem lcl_at {x : Nat} (h : x < (lcl it).length) : rowAt (lcl it) x = [(it.getD x noIt).2] := by
  rw [lcl_len] at h
  simp [rowAt, lcl, List.getD_eq_getElem?_getD, List.getElem?_eq_getElem h]
def cmpI (a b : Int) : Int := if a < b then -1 else if b < a then 1 else 0
theorem cmp_I {x y : Nat} (hx : x < (lcl it).length) (hy : y < (lcl it).length) : cmpS (rowAt (lcl it) x) (rowAt (lcl it) y) = cmpI (it.getD x noIt).2 (it.getD y noIt).2 := by
  rw [lcl_at hx, lcl_at hy]
  rfl
theorem cmpI_lt {l : List (List Int)} (hl : l = lcl it) {x y : Nat} (h : x < y) (hy : y < l.length) {yc xc : Int} (h1 : yc = (it.getD y noIt).2) (h2 : xc = (it.getD x noIt).2) : cmpI yc xc < 0 ↔ ilt l y x := by
  subst hl h1 h2
  rw [← cmp_I hy (by omega)]
  exact cmp_lt h
theorem cmpI_ge {l : List (List Int)} (hl : l = lcl it) {x y : Nat} (h : x < y) (hy : y < l.length) {yc xc : Int} (h1 : yc = (it.getD y noIt).2) (h2 : xc = (it.getD x noIt).2) : ¬ cmpI yc xc < 0 ↔ ilt l x y := by
  subst hl h1 h2
  rw [← cmp_I hy (by omega)]
  exact cmp_ge h
end Go.Proofs.Ytdncmdpacidgmaa

/-! ItCmp -/
namespace Go.Proofs.Ytdncmdpacidgmaa
open Go.RowKit

theorem Try.infoItem : (Try.prog.info? 99).map (fun i => (i.zero, i.size, i.bytes)) = some (some (.agg #[.int .i64 0, .int .i64 0]), 2, 16) := by kernel_rfl

set_option maxHeartbeats 1000000 in
theorem cmpNaN (a : Int) (w : World) : Calls Try.prog 81 #[.int .i64 a] w fun e w' => e = .returned (.bool false) ∧ w = w' := by
  go_enter Try.func81, Try.ntmps81
  go_wp2_with (fail)
  go_ret
  exact ⟨rfl, rfl⟩
set_option maxHeartbeats 1000000 in
theorem cmpCompare (a b : Int) (w : World) : Calls Try.prog 73 #[.int .i64 a, .int .i64 b] w fun e w' => e = .returned (.int .i64 (cmpI a b)) ∧ w = w' := by
  obtain ⟨r, hr⟩ : ∃ r, r = cmpI a b := ⟨_, rfl⟩
  rw [← hr]
  have HR := hid hr
  clear hr
  go_enter Try.func73, Try.ntmps73
  rcases Int.lt_trichotomy a b with h | h | h
  · have HH := hid (show r = -1 by rw [HR.out, cmpI, if_pos h])
    go_wp2_with (go_at_call 81; refine (cmpNaN _ w).mono ?_; rintro e w1 ⟨rfl, rfl⟩)
    go_ret
    exact ⟨by rw [HH.out]; rfl, rfl⟩
  · subst h
    have HH := hid (show r = 0 by rw [HR.out, cmpI, if_neg (by omega), if_neg (by omega)])
    go_wp2_with (go_at_call 81; refine (cmpNaN _ w).mono ?_; rintro e w1 ⟨rfl, rfl⟩)
    go_ret
    exact ⟨by rw [HH.out]; rfl, rfl⟩
  · have HH := hid (show r = 1 by rw [HR.out, cmpI, if_neg (by omega), if_pos h])
    have hn : ¬ a < b := by omega
    go_wp2_with (go_at_call 81; refine (cmpNaN _ w).mono ?_; rintro e w1 ⟨rfl, rfl⟩)
    go_ret
    exact ⟨by rw [HH.out]; rfl, rfl⟩
set_option maxHeartbeats 1000000 in
theorem byClass (an ac bn bc : Int) (w : World) : Calls Try.prog 60 #[.agg #[.int .i64 an, .int .i64 ac], .agg #[.int .i64 bn, .int .i64 bc]] w fun e w' => e = .returned (.int .i64 (cmpI ac bc)) ∧ Below w.heap.size w w' := by
  obtain ⟨i0, hi0, hz0, hz1, hz2⟩ := info_parts Try.infoItem
  go_enter Try.func60, Try.ntmps60
  go_wp2_with (go_at_call 73; refine (cmpCompare _ _ _).mono ?_; rintro e w1 ⟨rfl, rfl⟩)
  go_ret
  exact ⟨rfl, by (repeat (first | exact Below.refl _ _ | exact below_drewN _ | refine Below.drew ?_ | refine Below.alloc ?_ (by simp) _ | refine Below.setCell ?_ (by simp) _ | refine below_drewN' ?_ _))⟩
end Go.Proofs.Ytdncmdpacidgmaa

/-! ItS1 -/
namespace Go.Proofs.Ytdncmdpacidgmaa
open Go.RowKit

set_option maxHeartbeats 1000000 in
theorem swapItems (it : List (Int × Int)) (g off cap n : Nat) (pre post : List Value) (p : List Nat) (a b k : Nat) (cb : Value) (w : World) (hb : Rit0 it g off pre post p w) (hp : p.length = n) (hn : n ≤ 1000000) (hab : a + k ≤ b) (hbk : b + k ≤ n) :
    Calls Try.prog 86 #[.slice (some ⟨g, off, none⟩) n cap, .int .i64 a, .int .i64 b, .int .i64 k, cb] w fun e w' => e = .returned (.tuple #[]) ∧ Rit it g off pre post w (swR p a b k) w' := by
  have HR := hid (Rit.refl hb)
  have HP := hid hp
  clear hb hp
  obtain ⟨i0, hi0, hz0, hz1, hz2⟩ := info_parts Try.infoItem
  go_enter Try.func86, Try.ntmps86
  go_wp2
  go_loopw [10] (fun iv wr => ∃ i : Nat, i ≤ k ∧ iv = .int .i64 i ∧ Hid (Rit it g off pre post w (swR p a b i) wr)) (fun iv _ => k - (intOf iv).toNat)
  case atStart => exact ⟨0, by omega, rfl, HR.out⟩
  case round =>
    obtain ⟨i, hi, rfl, hr⟩ := hrel
    by_cases hlt : i < k
    · obtain ⟨q, hq⟩ : ∃ q, q = swR p a b i := ⟨_, rfl⟩
      have hql : q.length = n := by rw [hq, swR_len]; exact HP.out
      have hs : Hid (sw q (a + i) (b + i) = swR p a b (i + 1)) := hid (by rw [hq]; rfl)
      rw [← hq] at hr
      clear hq
      obtain ⟨c1, c1'⟩ := hr.out.at (i := a + i) (by omega)
      obtain ⟨c2, c2'⟩ := hr.out.at (i := b + i) (by omega)
      have f1 := hr.out.ice (off + (a + i) * 2)
      have f1' := hr.out.ice (off + (a + i) * 2 + 1)
      have f2 := hr.out.ice (off + (b + i) * 2)
      have f2' := hr.out.ice (off + (b + i) * 2 + 1)
      obtain ⟨xn, hxn⟩ : ∃ x, x = (it.getD (q.getD (a + i) 0) noIt).1 := ⟨_, rfl⟩
      obtain ⟨xc, hxc⟩ : ∃ x, x = (it.getD (q.getD (a + i) 0) noIt).2 := ⟨_, rfl⟩
      obtain ⟨yn, hyn⟩ : ∃ x, x = (it.getD (q.getD (b + i) 0) noIt).1 := ⟨_, rfl⟩
      obtain ⟨yc, hyc⟩ : ∃ x, x = (it.getD (q.getD (b + i) 0) noIt).2 := ⟨_, rfl⟩
      rw [← hxn] at c1
      rw [← hxc] at c1'
      rw [← hyn] at c2
      rw [← hyc] at c2'
      have HV := hid (show (xn = (it.getD (q.getD (a + i) 0) noIt).1 ∧ xc = (it.getD (q.getD (a + i) 0) noIt).2 ∧ yn = (it.getD (q.getD (b + i) 0) noIt).1 ∧ yc = (it.getD (q.getD (b + i) 0) noIt).2) ∧ a + i < q.length ∧ b + i < q.length from ⟨⟨hxn, hxc, hyn, hyc⟩, by omega, by omega⟩)
      clear hxn hxc hyn hyc hql
      obtain ⟨ai, hai⟩ : ∃ ai, ai = a + i := ⟨_, rfl⟩
      obtain ⟨bi, hbi⟩ : ∃ bi, bi = b + i := ⟨_, rfl⟩
      rw [← hai] at c1 c1' f1 f1' HV
      rw [← hbi] at c2 c2' f2 f2' HV
      have w1 : (a : Int) + (i : Int) = (ai : Int) := by omega
      have w2 : (b : Int) + (i : Int) = (bi : Int) := by omega
      have n1 : ai ≠ bi := by omega
      have n2 : bi ≠ ai := by omega
      have l1 : ai < n := by omega
      have l2 : bi < n := by omega
      have HAI := hid hai
      have HBI := hid hbi
      clear hai hbi
      go_wp2
      go_big_region
      all_goals go_wp2
      go_roundw
      case rel => exact ⟨i + 1, by omega, by go_num, by rw [← hs.out, ← HAI.out, ← HBI.out]; exact (hr.out.swap ai bi HV.out.2.1 HV.out.2.2 HV.out.1.1 HV.out.1.2.1 HV.out.1.2.2.1 HV.out.1.2.2.2).drewN 1⟩
      case measure => simp [intOf]; omega
    · obtain rfl : i = k := by omega
      go_wp2
      go_end0
      exact ⟨rfl, hr.out⟩
end Go.Proofs.Ytdncmdpacidgmaa

/-! Stab1 -/
namespace Go.Proofs.Ytdncmdpacidgmaa
open Go.RowKit

def cv (p : List Nat) : List Value := (castL p).map (Value.int .i64)
theorem cv_len (p : List Nat) : (cv p).length = p.length := by simp [cv, castL]
theorem cv_at {p : List Nat} {i : Nat} (h : i < p.length) : (cv p)[i]? = some (.int .i64 (p.getD i 0 : Nat)) := by
  simp [cv, castL, List.getD_eq_getElem?_getD, List.getElem?_eq_getElem h]
theorem cv_sw (p : List Nat) (i j : Nat) : ((cv p).set i (.int .i64 (p.getD j 0 : Nat))).set j (.int .i64 (p.getD i 0 : Nat)) = cv (sw p i j) := by
  simp [cv, castL, sw, List.map_set]

/-- a row of numbers in block g; all else is as it was in w -/
def Rown (g : Nat) (w : World) (p : List Nat) (wr : World) : Prop := Box 3 (cv p) g wr ∧ w.grownBy wr (some g)
theorem Rown.drewN {g : Nat} {w wr : World} {p : List Nat} (h : Rown g w p wr) (n : Nat) : Rown g w p (wr.drewN n) :=
  ⟨h.1, ⟨h.2.os, h.2.tape, h.2.output, h.2.size, h.2.block⟩⟩
theorem Rown.trans {g : Nat} {w w1 w2 : World} {p q : List Nat} (h : Rown g w p w1) (k : Rown g w1 q w2) : Rown g w q w2 :=
  ⟨k.1, ⟨k.2.os.trans h.2.os, k.2.tape.trans h.2.tape, k.2.output.trans h.2.output, Nat.le_trans h.2.size k.2.size, fun i hi hn => (k.2.block i (Nat.lt_of_lt_of_le hi h.2.size) hn).trans (h.2.block i hi hn)⟩⟩
theorem Rown.refl {g : Nat} {w : World} {p : List Nat} (h : Box 3 (cv p) g w) : Rown g w p w := ⟨h, rfl, rfl, rfl, Nat.le_refl _, fun _ _ _ => rfl⟩
theorem Rown.swap {g : Nat} {w wr : World} {p : List Nat} (h : Rown g w p wr) (i j : Nat) {x y : Int} (hx : x = (p.getD i 0 : Nat)) (hy : y = (p.getD j 0 : Nat)) :
    Rown g w (sw p i j) ((wr.setCell ⟨g, i, none⟩ (.int .i64 y)).setCell ⟨g, j, none⟩ (.int .i64 x)) := by
  subst hx hy
  refine ⟨?_, grow_set1 (grow_set1 h.2 i _) j _⟩
  rw [← cv_sw]
  exact (h.1.set i _).set j _
theorem Rown.at {g : Nat} {w wr : World} {p : List Nat} (h : Rown g w p wr) {i : Nat} (hi : i < p.length) : wr.cell? ⟨g, i, none⟩ = some (.int .i64 (p.getD i 0 : Nat)) := by
  rw [h.1.cell i, cv_at hi]
theorem Rown.ice {g : Nat} {w wr : World} {p : List Nat} (h : Rown g w p wr) (i : Nat) : wr.frozen? ⟨g, i, none⟩ = false := h.1.ice i

end Go.Proofs.Ytdncmdpacidgmaa

/-! Stab2 -/
namespace Go.Proofs.Ytdncmdpacidgmaa
open Go.RowKit

end Go.Proofs.Ytdncmdpacidgmaa

/-! Stab3 -/
namespace Go.Proofs.Ytdncmdpacidgmaa
open Go.RowKit

/-- x moved over the first c of R -/
def shL (A R C : List Nat) (x c : Nat) : List Nat := A ++ R.take c ++ x :: (R.drop c ++ C)
theorem shL_zero (A R C : List Nat) (x : Nat) : shL A R C x 0 = A ++ [x] ++ R ++ C := by simp [shL]
theorem shL_len (A R C : List Nat) (x c : Nat) : (shL A R C x c).length = A.length + 1 + R.length + C.length := by simp [shL]; omega
theorem shL_step {A R C : List Nat} {x c : Nat} (h : c < R.length) : sw (shL A R C x c) (A.length + c) (A.length + c + 1) = shL A R C x (c + 1) := by
  have e : R.drop c = R.getD c 0 :: R.drop (c + 1) := by
    rw [List.drop_eq_getElem_cons h, List.getD_eq_getElem?_getD, List.getElem?_eq_getElem h]; rfl
  have e2 : R.take (c + 1) = R.take c ++ [R.getD c 0] := by
    rw [List.take_add_one, List.getD_eq_getElem?_getD, List.getElem?_eq_getElem h]; rfl
  have hl : A.length + c = (A ++ R.take c).length := by rw [List.length_append, List.length_take]; omega
  unfold shL
  rw [e, e2, hl, List.cons_append, sw_next]
  simp
theorem shL_end (A R C : List Nat) (x c : Nat) : shL A R C x c = A ++ (R.take c ++ x :: R.drop c) ++ C := by simp [shL]

end Go.Proofs.Ytdncmdpacidgmaa

/-! Stab4 -/
namespace Go.Proofs.Ytdncmdpacidgmaa
open Go.RowKit

theorem shL_full (A L C : List Nat) (y : Nat) : shL A L C y L.length = A ++ L ++ [y] ++ C := by simp [shL]
theorem shL_back {A L C : List Nat} {y c : Nat} (h : c < L.length) : sw (shL A L C y (c + 1)) (A.length + c + 1) (A.length + c) = shL A L C y c := by
  have e : L.drop c = L.getD c 0 :: L.drop (c + 1) := by
    rw [List.drop_eq_getElem_cons h, List.getD_eq_getElem?_getD, List.getElem?_eq_getElem h]; rfl
  have e2 : L.take (c + 1) = L.take c ++ [L.getD c 0] := by
    rw [List.take_add_one, List.getD_eq_getElem?_getD, List.getElem?_eq_getElem h]; rfl
  have hl : A.length + c = (A ++ L.take c).length := by rw [List.length_append, List.length_take]; omega
  unfold shL
  rw [e, e2, hl, show A ++ (L.take c ++ [L.getD c 0]) ++ y :: (L.drop (c + 1) ++ C) = (A ++ L.take c) ++ L.getD c 0 :: y :: (L.drop (c + 1) ++ C) by simp, sw_prev]
  simp

end Go.Proofs.Ytdncmdpacidgmaa

/-! Stab5 -/
namespace Go.Proofs.Ytdncmdpacidgmaa

theorem sym_parts {l : List (List Int)} {L R : List Nat} {a m b mid nn s s0 r0 : Nat} (hm : m = a + L.length) (hb : b = m + R.length) (hmid : mid = (a + b) / 2) (hnn : nn = mid + m)
    (hlo : (mid < m ∧ s0 + b = nn ∧ r0 = mid) ∨ (m ≤ mid ∧ s0 = a ∧ r0 = m)) (h0 : s0 ≤ s) (h1 : s ≤ r0) (hL : L.Pairwise (ilt l)) (hR : R.Pairwise (ilt l))
    (hs : s = s0 ∨ ilt l (L.getD (s - 1 - a) 0) (R.getD (nn - 1 - (s - 1) - m) 0)) (hr : s = r0 ∨ ilt l (R.getD (nn - 1 - s - m) 0) (L.getD (s - a) 0)) :
    a ≤ s ∧ s ≤ m ∧ m ≤ nn - s ∧ nn - s ≤ b ∧ (∀ x ∈ L.take (s - a), ∀ y ∈ R.drop (nn - s - m), ilt l x y) ∧ (∀ x ∈ R.take (nn - s - m), ∀ y ∈ L.drop (s - a), ilt l x y) := by
  refine ⟨by omega, by omega, by omega, by omega, fun x hx y hy => ?_, fun x hx y hy => ?_⟩
  · obtain ⟨i, hi1, hi2, rfl⟩ := mem_take_getD hx
    obtain ⟨j, hj1, hj2, rfl⟩ := mem_drop_getD hy
    rcases hs with hs | hs
    · omega
    · exact ile_trans (pw_le hL (show i ≤ s - 1 - a by omega) (by omega)) (ile_trans' hs (pw_le hR (show nn - 1 - (s - 1) - m ≤ j by omega) hj2))
  · obtain ⟨i, hi1, hi2, rfl⟩ := mem_take_getD hx
    obtain ⟨j, hj1, hj2, rfl⟩ := mem_drop_getD hy
    rcases hr with hr | hr
    · omega
    · exact ile_trans (pw_le hR (show i ≤ nn - 1 - s - m by omega) (by omega)) (ile_trans' hr (pw_le hL (show s - a ≤ j by omega) hj2))
end Go.Proofs.Ytdncmdpacidgmaa

/-! Stab6 -/
namespace Go.Proofs.Ytdncmdpacidgmaa
open Go.RowKit

theorem pw_noleft {l : List (List Int)} {L R : List Nat} (h : L.length = 0) (k : R.Pairwise (ilt l)) : (L ++ R).Pairwise (ilt l) := by
  rw [List.eq_nil_of_length_eq_zero h]; exact k
theorem pw_noright {l : List (List Int)} {L R : List Nat} (h : R.length = 0) (k : L.Pairwise (ilt l)) : (L ++ R).Pairwise (ilt l) := by
  rw [List.eq_nil_of_length_eq_zero h, List.append_nil]; exact k
theorem nil_rot {X Y : List Nat} (h : X.length = 0 ∨ Y.length = 0) (A T : List Nat) : A ++ X ++ Y ++ T = A ++ Y ++ X ++ T := by
  rcases h with h | h <;> rw [List.eq_nil_of_length_eq_zero h] <;> simp

end Go.Proofs.Ytdncmdpacidgmaa

/-! Stab7 -/
namespace Go.Proofs.Ytdncmdpacidgmaa
open Go.RowKit

theorem shL_x {A S T : List Nat} {x c j : Nat} (h : c ≤ S.length) (hj : j = A.length + c) : (shL A S T x c).getD j 0 = x := by
  unfold shL
  rw [hj, show A.length + c = (A ++ S.take c).length by rw [List.length_append, List.length_take]; omega, getD_mid]
theorem shL_y {A S T : List Nat} {x c j : Nat} (h : c < S.length) (hj : j = A.length + c) : (shL A S T x (c + 1)).getD j 0 = S.getD c 0 := by
  have e2 : S.take (c + 1) = S.take c ++ [S.getD c 0] := by
    rw [List.take_add_one, List.getD_eq_getElem?_getD, List.getElem?_eq_getElem h]; rfl
  unfold shL
  rw [e2, hj, show A ++ (S.take c ++ [S.getD c 0]) ++ x :: (S.drop (c + 1) ++ T) = (A ++ S.take c) ++ S.getD c 0 :: (x :: (S.drop (c + 1) ++ T)) by simp,
    show A.length + c = (A ++ S.take c).length by rw [List.length_append, List.length_take]; omega, getD_mid]

end Go.Proofs.Ytdncmdpacidgmaa

/-! Stab8 -/
namespace Go.Proofs.Ytdncmdpacidgmaa
open Go.RowKit

/-- runs of bs numbers each, but for the last, each in order -/
inductive Blks (l : List (List Int)) (bs : Nat) : Nat → List Nat → Prop
  | last (s : Nat) (M : List Nat) (h : M.length ≤ bs) (hp : M.Perm (List.range' s M.length)) (hs : M.Pairwise (ilt l)) : Blks l bs s M
  | more (s : Nat) (M q : List Nat) (h : M.length = bs) (hp : M.Perm (List.range' s M.length)) (hs : M.Pairwise (ilt l)) (hq : Blks l bs (s + bs) q) : Blks l bs s (M ++ q)
def Pre (l : List (List Int)) (bs a : Nat) (A : List Nat) : Prop := ∀ q, Blks l bs a q → Blks l bs 0 (A ++ q)
theorem Pre.nil (l : List (List Int)) (bs : Nat) : Pre l bs 0 [] := fun _ h => h
theorem Pre.next {l : List (List Int)} {bs a : Nat} {A M : List Nat} (h : Pre l bs a A) (hl : M.length = bs) (hp : M.Perm (List.range' a M.length)) (hs : M.Pairwise (ilt l)) : Pre l bs (a + bs) (A ++ M) := fun q hq => by
  rw [List.append_assoc]
  exact h _ (.more a M q hl hp hs hq)
theorem Blks.nil (l : List (List Int)) (bs a : Nat) : Blks l bs a [] := .last a [] (by simp) (List.Perm.refl _) List.Pairwise.nil
/-- the first run, and what stands behind it -/
theorem Blks.cut {l : List (List Int)} {bs s : Nat} {q : List Nat} (h : Blks l bs s q) (hb : bs ≤ q.length) : ∃ M q', q = M ++ q' ∧ M.length = bs ∧ M.Perm (List.range' s M.length) ∧ M.Pairwise (ilt l) ∧ Blks l bs (s + bs) q' := by
  cases h with
  | last _ _ h hp hs => exact ⟨q, [], by simp, by omega, hp, hs, Blks.nil _ _ _⟩
  | more _ M q h hp hs hq => exact ⟨M, q, rfl, h, hp, hs, hq⟩
/-- no more than one run -/
theorem Blks.one {l : List (List Int)} {bs s : Nat} {q : List Nat} (h : Blks l bs s q) (hb : q.length ≤ bs) : q.Perm (List.range' s q.length) ∧ q.Pairwise (ilt l) := by
  cases h with
  | last _ _ h hp hs => exact ⟨hp, hs⟩
  | more _ M q h hp hs hq =>
    have hq0 : q = [] := List.eq_nil_of_length_eq_zero (by simp at hb; omega)
    subst hq0
    rw [List.append_nil]
    exact ⟨hp, hs⟩
theorem perm_lt {M : List Nat} {s k x : Nat} (h : M.Perm (List.range' s k)) (hx : x ∈ M) : s ≤ x ∧ x < s + k := by
  have := h.mem_iff.1 hx
  rwa [List.mem_range'_1] at this
theorem perm_two {M M1 M2 : List Nat} {s : Nat} (h : M.Perm (M1 ++ M2)) (h1 : M1.Perm (List.range' s M1.length)) (h2 : M2.Perm (List.range' (s + M1.length) M2.length)) : M.Perm (List.range' s M.length) := by
  have e : List.range' s M.length = List.range' s M1.length ++ List.range' (s + M1.length) M2.length := by
    rw [h.length_eq, List.length_append, List.range'_append_1]
  rw [e]
  exact h.trans (h1.append h2)

theorem perm_seg {M : List Nat} {s k : Nat} (h : M.Perm (List.range' s k)) : M.length = k ∧ M.Perm (List.range' s M.length) := by
  have e := h.length_eq
  rw [List.length_range'] at e
  exact ⟨e, by rw [e]; exact h⟩

end Go.Proofs.Ytdncmdpacidgmaa
