/- Plain facts of sorting byte strings: which stands where is one list of places alone; what is sorted is the same for every order of the elements. No conditions. -/
import Derived.Test.YtgdbjbkmkdkhhaaSetsSpec
namespace Go.Proofs.Ytgdbjbkmkdkhhaa

def rowAt (l : List (List Int)) (i : Nat) : List Int := l.getD i []
/-- place i stands ahead of place j -/
def ilt (l : List (List Int)) (i j : Nat) : Prop := cmpS (rowAt l i) (rowAt l j) < 0 ∨ (cmpS (rowAt l i) (rowAt l j) = 0 ∧ i < j)
/-- p tells which of the first n stands where -/
def IsPl (l : List (List Int)) (n : Nat) (p : List Nat) : Prop := p.Perm (List.range n) ∧ p.Pairwise (ilt l)

theorem ilt_not {l : List (List Int)} {i j : Nat} (h : ilt l i j) : ¬ ilt l j i := by
  have := cmpS_turn (rowAt l i) (rowAt l j)
  unfold ilt at h ⊢
  omega
theorem ilt_tri {l : List (List Int)} {i j : Nat} (h : ¬ ilt l i j) (h2 : ¬ ilt l j i) : i = j := by
  have := cmpS_turn (rowAt l i) (rowAt l j)
  unfold ilt at h h2
  omega
theorem pair_unique {α : Type} {R : α → α → Prop} (ha : ∀ a b, R a b → ¬ R b a) : ∀ (p q : List α), p.Perm q → p.Pairwise R → q.Pairwise R → p = q
  | [], q, hp, _, _ => List.Perm.nil_eq hp
  | a :: p, [], hp, _, _ => by have := hp.length_eq; simp at this
  | a :: p, b :: q, hp, h1, h2 => by
    rw [List.pairwise_cons] at h1 h2
    have hab : a = b := by
      have hA : a ∈ b :: q := hp.mem_iff.1 (List.mem_cons_self ..)
      have hB : b ∈ a :: p := hp.mem_iff.2 (List.mem_cons_self ..)
      rcases List.mem_cons.1 hA with h | hA
      · exact h
      · rcases List.mem_cons.1 hB with h | hB
        · exact h.symm
        · exact absurd (h2.1 a hA) (ha _ _ (h1.1 b hB))
    subst hab
    rw [pair_unique ha p q (List.perm_cons a |>.1 hp) h1.2 h2.2]
theorem place_unique {l : List (List Int)} {n : Nat} {p q : List Nat} (hp : IsPl l n p) (hq : IsPl l n q) : p = q :=
  pair_unique (R := ilt l) (fun _ _ h => ilt_not h) p q (hp.1.trans hq.1.symm) hp.2 hq.2
theorem place_nil (l : List (List Int)) : IsPl l 0 [] := ⟨List.Perm.refl _, List.Pairwise.nil⟩
theorem IsPl.len {l : List (List Int)} {n : Nat} {p : List Nat} (h : IsPl l n p) : p.length = n := by
  have := h.1.length_eq
  simpa using this
theorem IsPl.lt {l : List (List Int)} {n : Nat} {p : List Nat} (h : IsPl l n p) {i : Nat} (hi : i ∈ p) : i < n := by
  simpa using h.1.mem_iff.1 hi
theorem IsPl.nodup {l : List (List Int)} {n : Nat} {p : List Nat} (h : IsPl l n p) : p.Nodup := h.1.nodup_iff.2 List.nodup_range

/-- one more: what stands behind k is behind it, what stands at k - 1 is not. -/
theorem place_put {l : List (List Int)} {n k : Nat} {p : List Nat} (h : IsPl l n p) (hk : k ≤ p.length) (hb : ∀ j, k ≤ j → j < p.length → cmpS (rowAt l n) (rowAt l (p.getD j 0)) < 0)
    (ha : k = 0 ∨ 0 ≤ cmpS (rowAt l n) (rowAt l (p.getD (k - 1) 0))) : IsPl l (n + 1) (p.take k ++ n :: p.drop k) := by
  have gd : ∀ j (hj : j < p.length), p.getD j 0 = p[j] := fun j hj => by rw [List.getD_eq_getElem?_getD, List.getElem?_eq_getElem hj]; rfl
  have hperm : (p.take k ++ n :: p.drop k).Perm (List.range (n + 1)) := by
    rw [List.range_succ]
    refine (List.perm_middle).trans ?_
    rw [List.take_append_drop]
    exact (List.Perm.cons n h.1).trans (List.perm_append_comm (l₁ := [n]) (l₂ := List.range n))
  refine ⟨hperm, ?_⟩
  have hpw := h.2
  rw [← List.take_append_drop k p, List.pairwise_append] at hpw
  obtain ⟨w1, w2, w3⟩ := hpw
  rw [List.pairwise_append]
  have hback : ∀ x ∈ p.drop k, ilt l n x := fun x hx => by
    obtain ⟨j, hj, rfl⟩ := List.getElem_of_mem hx
    have hj' : j < p.length - k := by simpa using hj
    have := hb (k + j) (by omega) (by omega)
    rw [gd (k + j) (by omega)] at this
    rw [List.getElem_drop]
    exact .inl this
  have hfront : ∀ x ∈ p.take k, ilt l x n := fun x hx => by
    obtain ⟨j, hj, rfl⟩ := List.getElem_of_mem hx
    have hj' : j < k := by
      have : j < min k p.length := by simpa using hj
      omega
    rw [List.getElem_take]
    have hlast : cmpS (rowAt l (p[k - 1]'(by omega))) (rowAt l n) ≤ 0 := by
      rcases ha with h0 | h0
      · omega
      · rw [gd (k - 1) (by omega)] at h0
        have := cmpS_turn (rowAt l n) (rowAt l (p[k - 1]'(by omega)))
        omega
    have hxn : p[j]'(by omega) < n := h.lt (List.getElem_mem _)
    have hle : cmpS (rowAt l (p[j]'(by omega))) (rowAt l (p[k - 1]'(by omega))) ≤ 0 := by
      rcases Nat.lt_or_ge j (k - 1) with hjk | hjk
      · have := List.pairwise_iff_getElem.1 h.2 j (k - 1) (by omega) (by omega) hjk
        unfold ilt at this
        omega
      · have e : j = k - 1 := by omega
        subst e
        have := (cmpS_eq (rowAt l (p[k - 1]'(by omega))) (rowAt l (p[k - 1]'(by omega)))).2 rfl
        omega
    have ht := cmpS_trans _ _ _ hle hlast
    unfold ilt
    omega
  exact ⟨w1, List.pairwise_cons.2 ⟨hback, w2⟩, fun x hx y hy => by
    rcases List.mem_cons.1 hy with rfl | hy
    · exact hfront x hx
    · exact w3 x hx y hy⟩

/-- the rows in their order -/
def rowsAt (l : List (List Int)) (p : List Nat) : List (List Int) := p.map (rowAt l)
theorem rowsAt_range (l : List (List Int)) : rowsAt l (List.range l.length) = l := by
  apply List.ext_getElem
  · simp [rowsAt]
  · intro i h1 h2
    simp [rowsAt, rowAt, h2]
theorem rows_perm {l : List (List Int)} {p : List Nat} (h : IsPl l l.length p) : (rowsAt l p).Perm l := by
  have := h.1.map (rowAt l)
  have e := rowsAt_range l
  unfold rowsAt at e ⊢
  rwa [e] at this
theorem rows_sorted {l : List (List Int)} : ∀ {p : List Nat}, p.Pairwise (ilt l) → sortedS (rowsAt l p) = true
  | [], _ => rfl
  | a :: p, h => by
    rw [List.pairwise_cons] at h
    refine sortedS_mk (rows_sorted h.2) fun x hx => ?_
    obtain ⟨b, hb, rfl⟩ := List.mem_map.1 hx
    have := h.1 b hb
    unfold ilt at this
    omega
theorem sorted_place : ∀ (l : List (List Int)), sortedS l = true → (List.range l.length).Pairwise (ilt l) := by
  intro l h
  rw [List.pairwise_iff_getElem]
  intro i j hi hj hij
  simp only [List.length_range] at hi hj
  simp only [List.getElem_range]
  have key : ∀ (l : List (List Int)), sortedS l = true → ∀ i j, i < j → j < l.length → cmpS (rowAt l i) (rowAt l j) ≤ 0 := by
    intro l
    induction l with
    | nil => intro _ i j _ hj; simp at hj
    | cons a r ih =>
      intro h i j hij hj
      have hc := sortedS_cons h
      match i, j, hij, hj with
      | 0, j + 1, _, hj =>
        refine hc.2 (rowAt (a :: r) (j + 1)) ?_
        have hj' : j < r.length := by simpa using hj
        show r.getD j [] ∈ r
        rw [List.getD_eq_getElem?_getD, List.getElem?_eq_getElem hj']
        exact List.getElem_mem hj'
      | i + 1, j + 1, hij, hj => exact ih hc.1 i j (by omega) (by simpa using hj)
  have := key l h i j hij hj
  unfold ilt
  omega
theorem sorted_rows {l : List (List Int)} {p : List Nat} (h : IsPl l l.length p) (hs : sortedS l = true) : rowsAt l p = l := by
  have := place_unique h ⟨List.Perm.refl _, sorted_place l hs⟩
  rw [this, rowsAt_range]
theorem rows_same {l m : List (List Int)} {p q : List Nat} (hp : IsPl l l.length p) (hq : IsPl m m.length q) (h : l.Perm m) : rowsAt l p = rowsAt m q :=
  sorted_same _ _ ((rows_perm hp).trans (h.trans (rows_perm hq).symm)) (rows_sorted hp.2) (rows_sorted hq.2)
theorem rotate_perm {α : Type} (l : List α) (k : Nat) : (l.drop k ++ l.take k).Perm l := by
  have := List.perm_append_comm (l₁ := l.drop k) (l₂ := l.take k)
  rwa [List.take_append_drop] at this
end Go.Proofs.Ytgdbjbkmkdkhhaa
