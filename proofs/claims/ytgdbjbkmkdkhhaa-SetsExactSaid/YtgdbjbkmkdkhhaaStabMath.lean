/- Plain facts of a stable merge: exchanges in a list, places in joined lists, joined lists in order. No conditions. -/
import Derived.Test.YtgdbjbkmkdkhhaaRefSets3
namespace Go.Proofs.Ytgdbjbkmkdkhhaa

/-- what stands at i and at j, exchanged -/
def sw (p : List Nat) (i j : Nat) : List Nat := (p.set i (p.getD j 0)).set j (p.getD i 0)
theorem sw_len (p : List Nat) (i j : Nat) : (sw p i j).length = p.length := by simp [sw]
theorem set_mid (A B : List Nat) (x y : Nat) : (A ++ x :: B).set A.length y = A ++ y :: B := by simp
theorem getD_mid (A B : List Nat) (x : Nat) : (A ++ x :: B).getD A.length 0 = x := by simp [List.getD_eq_getElem?_getD]
theorem sw_lists (A B C : List Nat) (x y : Nat) : sw (A ++ x :: (B ++ y :: C)) A.length (A.length + 1 + B.length) = A ++ y :: (B ++ x :: C) := by
  have e : A ++ x :: (B ++ y :: C) = (A ++ x :: B) ++ y :: C := by simp
  have hl : A.length + 1 + B.length = (A ++ x :: B).length := by simp; omega
  have g1 : (A ++ x :: (B ++ y :: C)).getD (A.length + 1 + B.length) 0 = y := by rw [e, hl, getD_mid]
  have g2 : (A ++ x :: (B ++ y :: C)).getD A.length 0 = x := getD_mid A _ x
  unfold sw
  rw [g1, g2, set_mid]
  have e' : A ++ y :: (B ++ y :: C) = (A ++ y :: B) ++ y :: C := by simp
  have hl' : A.length + 1 + B.length = (A ++ y :: B).length := by simp; omega
  rw [e', hl', set_mid]
  simp
theorem sw_next (A C : List Nat) (x y : Nat) : sw (A ++ x :: y :: C) A.length (A.length + 1) = A ++ y :: x :: C := sw_lists A [] C x y
theorem sw_turn (p : List Nat) {i j : Nat} (h : i ≠ j) : sw p i j = sw p j i := by
  unfold sw
  exact (List.set_comm _ _ h)
theorem sw_prev (A C : List Nat) (x y : Nat) : sw (A ++ x :: y :: C) (A.length + 1) A.length = A ++ y :: x :: C := by
  rw [sw_turn _ (by omega), sw_next]

/-- the first k of two runs, exchanged one by one -/
def swR (p : List Nat) (a b : Nat) : Nat → List Nat
  | 0 => p
  | k + 1 => sw (swR p a b k) (a + k) (b + k)
theorem swR_len (p : List Nat) (a b : Nat) : ∀ k, (swR p a b k).length = p.length
  | 0 => rfl
  | k + 1 => by rw [swR, sw_len, swR_len p a b k]
theorem snoc_of {U : List Nat} {k : Nat} (h : U.length = k + 1) : ∃ U1 u, U = U1 ++ [u] := by
  have hn : U ≠ [] := by rintro rfl; simp at h
  exact ⟨U.dropLast, U.getLast hn, (List.dropLast_concat_getLast hn).symm⟩
theorem swR_lists (A B C : List Nat) : ∀ (k : Nat) (U V : List Nat), U.length = k → V.length = k → ∀ (U' V' : List Nat), U'.length = V'.length →
    swR (A ++ (U ++ U') ++ B ++ (V ++ V') ++ C) A.length (A.length + (U.length + U'.length) + B.length) k = A ++ (V ++ U') ++ B ++ (U ++ V') ++ C
  | 0, U, V, hU, hV, U', V', _ => by
    obtain rfl := List.eq_nil_of_length_eq_zero hU
    obtain rfl := List.eq_nil_of_length_eq_zero hV
    rfl
  | k + 1, U, V, hU, hV, U', V', h' => by
    obtain ⟨U1, u, rfl⟩ := snoc_of hU
    obtain ⟨V1, v, rfl⟩ := snoc_of hV
    simp only [List.length_append, List.length_cons, List.length_nil] at hU hV
    have ih := swR_lists A B C k U1 V1 (by omega) (by omega) (u :: U') (v :: V') (by simp [h'])
    have e0 : A ++ (U1 ++ [u] ++ U') ++ B ++ (V1 ++ [v] ++ V') ++ C = A ++ (U1 ++ u :: U') ++ B ++ (V1 ++ v :: V') ++ C := by simp
    have l0 : A.length + ((U1 ++ [u]).length + U'.length) + B.length = A.length + (U1.length + (u :: U').length) + B.length := by simp; omega
    rw [swR, e0, l0, ih]
    have e1 : A ++ (V1 ++ u :: U') ++ B ++ (U1 ++ v :: V') ++ C = (A ++ V1) ++ u :: ((U' ++ B ++ U1) ++ v :: (V' ++ C)) := by simp
    have l1 : A.length + k = (A ++ V1).length := by simp; omega
    have l2 : A.length + (U1.length + (u :: U').length) + B.length + k = (A ++ V1).length + 1 + (U' ++ B ++ U1).length := by simp; omega
    rw [e1, l1, l2, sw_lists]
    simp
theorem swR_runs (A U B V C : List Nat) (h : U.length = V.length) : swR (A ++ U ++ B ++ V ++ C) A.length (A.length + U.length + B.length) U.length = A ++ V ++ B ++ U ++ C := by
  have := swR_lists A B C U.length U V rfl h.symm [] [] rfl
  simpa using this

/-! ### places in joined lists -/
theorem at_left {A L T : List Nat} {i : Nat} (h0 : A.length ≤ i) (h1 : i < A.length + L.length) : (A ++ L ++ T).getD i 0 = L.getD (i - A.length) 0 := by
  simp only [List.getD_eq_getElem?_getD]
  rw [List.getElem?_append_left (by simp; omega), List.getElem?_append_right h0]
theorem at_right {A L R C : List Nat} {i : Nat} (h0 : A.length + L.length ≤ i) (h1 : i < A.length + L.length + R.length) : (A ++ L ++ R ++ C).getD i 0 = R.getD (i - (A.length + L.length)) 0 := by
  have := @at_left (A ++ L) R C i (by simp; omega) (by simp; omega)
  simpa using this
theorem getD_mem {L : List Nat} {i : Nat} (h : i < L.length) : L.getD i 0 ∈ L := by
  rw [List.getD_eq_getElem?_getD, List.getElem?_eq_getElem h]
  exact List.getElem_mem h
theorem mem_getD {L : List Nat} {x : Nat} (h : x ∈ L) : ∃ i, i < L.length ∧ L.getD i 0 = x := by
  obtain ⟨i, hi, rfl⟩ := List.getElem_of_mem h
  exact ⟨i, hi, by rw [List.getD_eq_getElem?_getD, List.getElem?_eq_getElem hi]; rfl⟩
theorem mem_take_getD {L : List Nat} {x t : Nat} (h : x ∈ L.take t) : ∃ i, i < t ∧ i < L.length ∧ L.getD i 0 = x := by
  obtain ⟨i, hi, rfl⟩ := List.getElem_of_mem h
  rw [List.length_take] at hi
  exact ⟨i, by omega, by omega, by rw [List.getD_eq_getElem?_getD, List.getElem?_eq_getElem (by omega)]; simp⟩
theorem mem_drop_getD {L : List Nat} {x t : Nat} (h : x ∈ L.drop t) : ∃ i, t ≤ i ∧ i < L.length ∧ L.getD i 0 = x := by
  obtain ⟨i, hi, rfl⟩ := List.getElem_of_mem h
  rw [List.length_drop] at hi
  exact ⟨t + i, by omega, by omega, by rw [List.getD_eq_getElem?_getD, List.getElem?_eq_getElem (by omega)]; simp⟩

/-! ### in order -/
/-- a is not behind b -/
def ile (l : List (List Int)) (i j : Nat) : Prop := i = j ∨ ilt l i j
theorem ilt_trans {l : List (List Int)} {i j k : Nat} (h1 : ilt l i j) (h2 : ilt l j k) : ilt l i k := by
  have t := cmpS_trans (rowAt l i) (rowAt l j) (rowAt l k)
  unfold ilt at h1 h2 ⊢
  have t1 := t (by omega) (by omega)
  omega
theorem ile_trans {l : List (List Int)} {i j k : Nat} (h1 : ile l i j) (h2 : ilt l j k) : ilt l i k := by
  rcases h1 with rfl | h1
  · exact h2
  · exact ilt_trans h1 h2
theorem ile_trans' {l : List (List Int)} {i j k : Nat} (h1 : ilt l i j) (h2 : ile l j k) : ilt l i k := by
  rcases h2 with rfl | h2
  · exact h1
  · exact ilt_trans h1 h2
theorem pw_le {l : List (List Int)} {L : List Nat} (h : L.Pairwise (ilt l)) {i j : Nat} (hij : i ≤ j) (hj : j < L.length) : ile l (L.getD i 0) (L.getD j 0) := by
  rcases Nat.lt_or_ge i j with h1 | h1
  · right
    have := List.pairwise_iff_getElem.1 h i j (by omega) hj h1
    rw [List.getD_eq_getElem?_getD, List.getD_eq_getElem?_getD, List.getElem?_eq_getElem (by omega), List.getElem?_eq_getElem hj]
    exact this
  · obtain rfl : i = j := by omega
    exact .inl rfl
/-- y is compared with x, and y's number is the greater: only ahead where its row is -/
theorem cmp_lt {l : List (List Int)} {x y : Nat} (h : x < y) : cmpS (rowAt l y) (rowAt l x) < 0 ↔ ilt l y x := by
  unfold ilt
  omega
theorem cmp_ge {l : List (List Int)} {x y : Nat} (h : x < y) : ¬ cmpS (rowAt l y) (rowAt l x) < 0 ↔ ilt l x y := by
  have := cmpS_turn (rowAt l x) (rowAt l y)
  unfold ilt
  omega

/-- one put among others that are in order -/
theorem pw_put {l : List (List Int)} {R : List Nat} {x t : Nat} (h : R.Pairwise (ilt l)) (ht : t ≤ R.length) (h1 : t = 0 ∨ ilt l (R.getD (t - 1) 0) x) (h2 : t = R.length ∨ ilt l x (R.getD t 0)) :
    (R.take t ++ x :: R.drop t).Pairwise (ilt l) := by
  rw [List.pairwise_append, List.pairwise_cons]
  have hb : ∀ a ∈ R.take t, ilt l a x := fun a ha => by
    obtain ⟨i, hi, hi2, rfl⟩ := mem_take_getD ha
    exact ile_trans (pw_le h (show i ≤ t - 1 by omega) (by omega)) (by rcases h1 with h1 | h1; omega; exact h1)
  have ha : ∀ a ∈ R.drop t, ilt l x a := fun a ha => by
    obtain ⟨i, hi, hi2, rfl⟩ := mem_drop_getD ha
    exact ile_trans' (by rcases h2 with h2 | h2; omega; exact h2) (pw_le h hi hi2)
  refine ⟨h.sublist (List.take_sublist ..), ⟨ha, h.sublist (List.drop_sublist ..)⟩, fun a h3 b h4 => ?_⟩
  rcases List.mem_cons.1 h4 with rfl | h4
  · exact hb a h3
  · exact ilt_trans (hb a h3) (ha b h4)
theorem put_perm (R : List Nat) (x t : Nat) : (R.take t ++ x :: R.drop t).Perm (x :: R) := by
  refine List.perm_middle.trans ?_
  rw [List.take_append_drop]

/-- the four parts of a cut merge -/
theorem pw_join {l : List (List Int)} {M1 M2 L1 L2 R1 R2 : List Nat} (h1 : M1.Perm (L1 ++ R1)) (h2 : M2.Perm (L2 ++ R2)) (p1 : M1.Pairwise (ilt l)) (p2 : M2.Pairwise (ilt l))
    (a : ∀ x ∈ L1, ∀ y ∈ L2, ilt l x y) (b : ∀ x ∈ L1, ∀ y ∈ R2, ilt l x y) (c : ∀ x ∈ R1, ∀ y ∈ L2, ilt l x y) (d : ∀ x ∈ R1, ∀ y ∈ R2, ilt l x y) : (M1 ++ M2).Pairwise (ilt l) := by
  rw [List.pairwise_append]
  refine ⟨p1, p2, fun x hx y hy => ?_⟩
  rcases List.mem_append.1 (h1.mem_iff.1 hx) with hx | hx <;> rcases List.mem_append.1 (h2.mem_iff.1 hy) with hy | hy
  · exact a x hx y hy
  · exact b x hx y hy
  · exact c x hx y hy
  · exact d x hx y hy
theorem perm_join {M1 M2 L1 L2 R1 R2 : List Nat} (h1 : M1.Perm (L1 ++ R1)) (h2 : M2.Perm (L2 ++ R2)) : (M1 ++ M2).Perm (L1 ++ L2 ++ (R1 ++ R2)) := by
  refine (h1.append h2).trans ?_
  rw [List.append_assoc, List.append_assoc]
  refine List.Perm.append_left L1 ?_
  rw [← List.append_assoc, ← List.append_assoc]
  exact List.Perm.append_right R2 List.perm_append_comm
theorem cut_rel {R : Nat → Nat → Prop} {L : List Nat} (h : L.Pairwise R) (t : Nat) : ∀ x ∈ L.take t, ∀ y ∈ L.drop t, R x y := by
  rw [← List.take_append_drop t L, List.pairwise_append] at h
  exact h.2.2
end Go.Proofs.Ytgdbjbkmkdkhhaa
