/- Several texts in one: SetsSpec, SetsAt, RefSets1, SetsMath. -/
import Derived.Test.YtdncmdpacidgmaaPk1
/-! SetsSpec -/
namespace Go.Proofs.Ytdncmdpacidgmaa

/-- -1 ahead, 0 the same, 1 behind -/
def cmpS : List Int → List Int → Int
  | [], [] => 0
  | [], _ :: _ => -1
  | _ :: _, [] => 1
  | x :: xs, y :: ys => if x < y then -1 else if y < x then 1 else cmpS xs ys

theorem cmpS_range : ∀ a b : List Int, cmpS a b = -1 ∨ cmpS a b = 0 ∨ cmpS a b = 1
  | [], [] => .inr (.inl rfl)
  | [], _ :: _ => .inl rfl
  | _ :: _, [] => .inr (.inr rfl)
  | x :: xs, y :: ys => by
    rw [cmpS]
    split
    · exact .inl rfl
    · split
      · exact .inr (.inr rfl)
      · exact cmpS_range xs ys
theorem cmpS_eq : ∀ a b : List Int, cmpS a b = 0 ↔ a = b
  | [], [] => by simp [cmpS]
  | [], _ :: _ => by simp [cmpS]
  | _ :: _, [] => by simp [cmpS]
  | x :: xs, y :: ys => by
    rw [cmpS]
    split
    · simp; omega
    · split
      · simp; omega
      · rw [cmpS_eq xs ys, List.cons.injEq]
        constructor
        · intro h; exact ⟨by omega, h⟩
        · intro h; exact h.2
theorem cmpS_turn : ∀ a b : List Int, cmpS b a = -cmpS a b
  | [], [] => rfl
  | [], _ :: _ => rfl
  | _ :: _, [] => rfl
  | x :: xs, y :: ys => by
    rw [cmpS, cmpS]
    by_cases h1 : x < y
    · rw [if_neg (by omega), if_pos h1, if_pos h1]; rfl
    · by_cases h2 : y < x
      · rw [if_pos h2, if_neg h1, if_pos h2]
      · rw [if_neg h2, if_neg h1, if_neg h1, if_neg h2, cmpS_turn xs ys]
theorem cmpS_trans : ∀ a b c : List Int, cmpS a b ≤ 0 → cmpS b c ≤ 0 → cmpS a c ≤ 0 ∧ (cmpS a b < 0 → cmpS a c < 0) ∧ (cmpS b c < 0 → cmpS a c < 0)
  | [], [], [] => by simp [cmpS]
  | [], [], _ :: _ => by simp [cmpS]
  | [], _ :: _, [] => by simp [cmpS]
  | [], _ :: _, _ :: _ => by simp [cmpS]
  | _ :: _, [], _ => by simp [cmpS]
  | _ :: _, _ :: _, [] => by simp [cmpS]
  | x :: xs, y :: ys, z :: zs => by
    intro h1 h2
    have ih := cmpS_trans xs ys zs
    have e1 : cmpS (x :: xs) (y :: ys) = if x < y then -1 else if y < x then 1 else cmpS xs ys := by rw [cmpS]
    have e2 : cmpS (y :: ys) (z :: zs) = if y < z then -1 else if z < y then 1 else cmpS ys zs := by rw [cmpS]
    have e3 : cmpS (x :: xs) (z :: zs) = if x < z then -1 else if z < x then 1 else cmpS xs zs := by rw [cmpS]
    generalize cmpS (x :: xs) (y :: ys) = p at *
    generalize cmpS (y :: ys) (z :: zs) = q at *
    generalize cmpS (x :: xs) (z :: zs) = r at *
    split at e1
    · split at e2
      · rw [if_pos (by omega)] at e3; omega
      · split at e2
        · omega
        · rw [if_pos (by omega)] at e3; omega
    · split at e1
      · omega
      · split at e2
        · rw [if_pos (by omega)] at e3; omega
        · split at e2
          · omega
          · rw [if_neg (by omega), if_neg (by omega)] at e3
            rw [e1] at h1 ⊢
            rw [e2] at h2 ⊢
            rw [e3]
            exact ih h1 h2
theorem cmpS_pre : ∀ (a b c : List Int), cmpS (a ++ b) (a ++ c) = cmpS b c
  | [], _, _ => rfl
  | x :: a, b, c => by
    rw [List.cons_append, List.cons_append, cmpS, if_neg (by omega), if_neg (by omega), cmpS_pre a b c]

/-- no one is ahead of the one before it -/
def sortedS : List (List Int) → Bool
  | [] => true
  | [_] => true
  | a :: b :: r => decide (0 ≤ cmpS b a) && sortedS (b :: r)

theorem sortedS_cons {a : List Int} {l : List (List Int)} (h : sortedS (a :: l) = true) : sortedS l = true ∧ ∀ x ∈ l, cmpS a x ≤ 0 := by
  induction l generalizing a with
  | nil => exact ⟨rfl, fun _ hx => by cases hx⟩
  | cons b r ih =>
    simp only [sortedS, Bool.and_eq_true, decide_eq_true_eq] at h
    obtain ⟨h1, h2⟩ := h
    have ht := cmpS_turn b a
    refine ⟨h2, fun x hx => ?_⟩
    rcases List.mem_cons.1 hx with rfl | hx
    · omega
    · exact (cmpS_trans a b x (by omega) ((ih h2).2 x hx)).1
theorem sortedS_mk {a : List Int} {l : List (List Int)} (h : sortedS l = true) (h1 : ∀ x ∈ l, cmpS a x ≤ 0) : sortedS (a :: l) = true := by
  match l, h, h1 with
  | [], _, _ => rfl
  | b :: r, h, h1 =>
    simp only [sortedS, Bool.and_eq_true, decide_eq_true_eq]
    have := cmpS_turn a b
    exact ⟨by have := h1 b (List.mem_cons_self ..); omega, h⟩

/-- rows of the same elements, both in order, are the same -/
theorem sorted_same : ∀ (l m : List (List Int)), l.Perm m → sortedS l = true → sortedS m = true → l = m
  | [], m, hp, _, _ => (List.Perm.nil_eq hp)
  | a :: l, [], hp, _, _ => by have := hp.length_eq; simp at this
  | a :: l, b :: m, hp, h1, h2 => by
    have s1 := sortedS_cons h1
    have s2 := sortedS_cons h2
    have hab : a = b := by
      have ha : a ∈ b :: m := hp.mem_iff.1 (List.mem_cons_self ..)
      have hb : b ∈ a :: l := hp.mem_iff.2 (List.mem_cons_self ..)
      rcases List.mem_cons.1 ha with rfl | ha
      · rfl
      · rcases List.mem_cons.1 hb with hb | hb
        · exact hb.symm
        · have e1 := s2.2 a ha
          have e2 := s1.2 b hb
          have e3 := cmpS_turn a b
          exact (cmpS_eq a b).1 (by omega)
    subst hab
    rw [sorted_same l m (List.perm_cons a |>.1 hp) s1.1 s2.1]

end Go.Proofs.Ytdncmdpacidgmaa

/-! SetsAt -/
namespace Go.Proofs.Ytdncmdpacidgmaa

theorem cmpS_drop : ∀ (k : Nat) (xs ys : List Int), k ≤ xs.length → k ≤ ys.length → (∀ i, i < k → xs.getD i 0 = ys.getD i 0) → cmpS xs ys = cmpS (xs.drop k) (ys.drop k)
  | 0, _, _, _, _, _ => rfl
  | k + 1, [], _, h, _, _ => by simp at h
  | k + 1, _ :: _, [], _, h, _ => by simp at h
  | k + 1, x :: xs, y :: ys, h1, h2, h => by
    have h0 : x = y := by simpa using h 0 (by omega)
    subst h0
    rw [cmpS, if_neg (by omega), if_neg (by omega), List.drop_succ_cons, List.drop_succ_cons]
    exact cmpS_drop k xs ys (by simpa using h1) (by simpa using h2) fun i hi => by simpa using h (i + 1) (by omega)
theorem cmpS_head {k : Nat} {xs ys : List Int} (h1 : k < xs.length) (h2 : k < ys.length) (h : ∀ i, i < k → xs.getD i 0 = ys.getD i 0) :
    cmpS xs ys = if xs.getD k 0 < ys.getD k 0 then -1 else if ys.getD k 0 < xs.getD k 0 then 1 else cmpS (xs.drop (k + 1)) (ys.drop (k + 1)) := by
  rw [cmpS_drop k xs ys (by omega) (by omega) h, drop_getD (x := xs.getD k 0) rfl h1, drop_getD (x := ys.getD k 0) rfl h2, cmpS]
theorem cmpS_lt {k : Nat} {xs ys : List Int} (h1 : k < xs.length) (h2 : k < ys.length) (h : ∀ i, i < k → xs.getD i 0 = ys.getD i 0) (hl : xs.getD k 0 < ys.getD k 0) : cmpS xs ys = -1 := by
  rw [cmpS_head h1 h2 h, if_pos hl]
theorem cmpS_gt {k : Nat} {xs ys : List Int} (h1 : k < xs.length) (h2 : k < ys.length) (h : ∀ i, i < k → xs.getD i 0 = ys.getD i 0) (hl : ys.getD k 0 < xs.getD k 0) : cmpS xs ys = 1 := by
  rw [cmpS_head h1 h2 h, if_neg (by omega), if_pos hl]
theorem cmpS_end {k : Nat} {xs ys : List Int} (h1 : k ≤ xs.length) (h2 : k ≤ ys.length) (h : ∀ i, i < k → xs.getD i 0 = ys.getD i 0) (he : k = xs.length ∨ k = ys.length) :
    cmpS xs ys = if xs.length < ys.length then -1 else if ys.length < xs.length then 1 else 0 := by
  rw [cmpS_drop k xs ys h1 h2 h]
  have e1 : (xs.drop k).length = xs.length - k := List.length_drop
  have e2 : (ys.drop k).length = ys.length - k := List.length_drop
  generalize xs.drop k = p at e1 ⊢
  generalize ys.drop k = q at e2 ⊢
  match p, q with
  | [], [] => simp at e1 e2; rw [if_neg (by omega), if_neg (by omega)]; rfl
  | [], _ :: _ => simp at e1 e2; rw [if_pos (by omega)]; rfl
  | _ :: _, [] => simp at e1 e2; rw [if_neg (by omega), if_pos (by omega)]; rfl
  | _ :: _, _ :: _ => simp at e1 e2; omega

/-- no one of the first k is ahead of the one before it -/
theorem sortedS_iff : ∀ (l : List (List Int)), sortedS l = true ↔ ∀ i, 1 ≤ i → i < l.length → 0 ≤ cmpS (l.getD i []) (l.getD (i - 1) [])
  | [] => by simp [sortedS]
  | [a] => by simp [sortedS]; intro i h1 h2; omega
  | a :: b :: r => by
    rw [sortedS, Bool.and_eq_true, decide_eq_true_eq, sortedS_iff (b :: r)]
    constructor
    · rintro ⟨h0, h⟩ i h1 h2
      match i, h1, h2 with
      | 1, _, _ => simpa using h0
      | i + 2, _, h2 =>
        have := h (i + 1) (by omega) (by simpa using h2)
        simpa using this
    · intro h
      refine ⟨by simpa using h 1 (by omega) (by simp), fun i h1 h2 => ?_⟩
      have := h (i + 1) (by omega) (by simpa using h2)
      match i, h1 with
      | i + 1, _ => simpa using this
end Go.Proofs.Ytdncmdpacidgmaa

/-! RefSets1 -/
namespace Go.Proofs.Ytdncmdpacidgmaa
open Go.RowKit

theorem ret_i64 {a b : Int} (h : a = b) : Ending.returned (.int .i64 a) = .returned (.int .i64 b) := by rw [h]

end Go.Proofs.Ytdncmdpacidgmaa

/-! SetsMath -/
namespace Go.Proofs.Ytdncmdpacidgmaa

def rowAt (l : List (List Int)) (i : Nat) : List Int := l.getD i []
/-- place i stands ahead of place j -/
def ilt (l : List (List Int)) (i j : Nat) : Prop := cmpS (rowAt l i) (rowAt l j) < 0 ∨ (cmpS (rowAt l i) (rowAt l j) = 0 ∧ i < j)
/-- p tells which of the first n stands where -/
def IsPl (l : List (List Int)) (n : Nat) (p : List Nat) : Prop := p.Perm (List.range n) ∧ p.Pairwise (ilt l)

theorem ilt_not {l : List (List Int)} {i j : Nat} (h : ilt l i j) : ¬ ilt l j i := by
  have := cmpS_turn (rowAt l i) (rowAt l j)
  unfold ilt at h ⊢
  omega
theorem ilt_tri {l : List (List Int)} {i j : Nat} (h : ¬ ilt l i j) (h2 : ¬ ilt l j i) : i = j := by
  have := cmpS_turn (rowAt l i) (rowAt l j)
  unfold ilt at h h2
  omega
theorem pair_unique {α : Type} {R : α → α → Prop} (ha : ∀ a b, R a b → ¬ R b a) : ∀ (p q : List α), p.Perm q → p.Pairwise R → q.Pairwise R → p = q
  | [], q, hp, _, _ => List.Perm.nil_eq hp
  | a :: p, [], hp, _, _ => by have := hp.length_eq; simp at this
  | a :: p, b :: q, hp, h1, h2 => by
    rw [List.pairwise_cons] at h1 h2
    have hab : a = b := by
      have hA : a ∈ b :: q := hp.mem_iff.1 (List.mem_cons_self ..)
      have hB : b ∈ a :: p := hp.mem_iff.2 (List.mem_cons_self ..)
      rcases List.mem_cons.1 hA with h | hA
      · exact h
      · rcases List.mem_cons.1 hB with h | hB
        · exact h.symm
        · exact absurd (h2.1 a hA) (ha _ _ (h1.1 b hB))
    subst hab
    rw [pair_unique ha p q (List.perm_cons a |>.1 hp) h1.2 h2.2]
theorem place_unique {l : List (List Int)} {n : Nat} {p q : List Nat} (hp : IsPl l n p) (hq : IsPl l n q) : p = q :=
  pair_unique (R := ilt l) (fun _ _ h => ilt_not h) p q (hp.1.trans hq.1.symm) hp.2 hq.2
theorem place_nil (l : List (List Int)) : IsPl l 0 [] := ⟨List.Perm.refl _, List.Pairwise.nil⟩
theorem IsPl.len {l : List (List Int)} {n : Nat} {p : List Nat} (h : IsPl l n p) : p.length = n := by
  have := h.1.length_eq
  simpa using this
theorem IsPl.lt {l : List (List Int)} {n : Nat} {p : List Nat} (h : IsPl l n p) {i : Nat} (hi : i ∈ p) : i < n := by
  simpa using h.1.mem_iff.1 hi
theorem IsPl.nodup {l : List (List Int)} {n : Nat} {p : List Nat} (h : IsPl l n p) : p.Nodup := h.1.nodup_iff.2 List.nodup_range

/-- one more: what stands behind k is behind it, what stands at k - 1 is not. -/
theorem place_put {l : List (List Int)} {n k : Nat} {p : List Nat} (h : IsPl l n p) (hk : k ≤ p.length) (hb : ∀ j, k ≤ j → j < p.length → cmpS (rowAt l n) (rowAt l (p.getD j 0)) < 0)
    (ha : k = 0 ∨ 0 ≤ cmpS (rowAt l n) (rowAt l (p.getD (k - 1) 0))) : IsPl l (n + 1) (p.take k ++ n :: p.drop k) := by
  have gd : ∀ j (hj : j < p.length), p.getD j 0 = p[j] := fun j hj => by rw [List.getD_eq_getElem?_getD, List.getElem?_eq_getElem hj]; rfl
  have hperm : (p.take k ++ n :: p.drop k).Perm (List.range (n + 1)) := by
    rw [List.range_succ]
    refine (List.perm_middle).trans ?_
    rw [List.take_append_drop]
    exact (List.Perm.cons n h.1).trans (List.perm_append_comm (l₁ := [n]) (l₂ := List.range n))
  refine ⟨hperm, ?_⟩
  have hpw := h.2
  rw [← List.take_append_drop k p, List.pairwise_append] at hpw
  obtain ⟨w1, w2, w3⟩ := hpw
  rw [List.pairwise_append]
  have hback : ∀ x ∈ p.drop k, ilt l n x := fun x hx => by
    obtain ⟨j, hj, rfl⟩ := List.getElem_of_mem hx
    have hj' : j < p.length - k := by simpa using hj
    have := hb (k + j) (by omega) (by omega)
    rw [gd (k + j) (by omega)] at this
    rw [List.getElem_drop]
    exact .inl this
  have hfront : ∀ x ∈ p.take k, ilt l x n := fun x hx => by
    obtain ⟨j, hj, rfl⟩ := List.getElem_of_mem hx
    have hj' : j < k := by
      have : j < min k p.length := by simpa using hj
      omega
    rw [List.getElem_take]
    have hlast : cmpS (rowAt l (p[k - 1]'(by omega))) (rowAt l n) ≤ 0 := by
      rcases ha with h0 | h0
      · omega
      · rw [gd (k - 1) (by omega)] at h0
        have := cmpS_turn (rowAt l n) (rowAt l (p[k - 1]'(by omega)))
        omega
    have hxn : p[j]'(by omega) < n := h.lt (List.getElem_mem _)
    have hle : cmpS (rowAt l (p[j]'(by omega))) (rowAt l (p[k - 1]'(by omega))) ≤ 0 := by
      rcases Nat.lt_or_ge j (k - 1) with hjk | hjk
      · have := List.pairwise_iff_getElem.1 h.2 j (k - 1) (by omega) (by omega) hjk
        unfold ilt at this
        omega
      · have e : j = k - 1 := by omega
        subst e
        have := (cmpS_eq (rowAt l (p[k - 1]'(by omega))) (rowAt l (p[k - 1]'(by omega)))).2 rfl
        omega
    have ht := cmpS_trans _ _ _ hle hlast
    unfold ilt
    omega
  exact ⟨w1, List.pairwise_cons.2 ⟨hback, w2⟩, fun x hx y hy => by
    rcases List.mem_cons.1 hy with rfl | hy
    · exact hfront x hx
    · exact w3 x hx y hy⟩

/-- the rows in their order -/
def rowsAt (l : List (List Int)) (p : List Nat) : List (List Int) := p.map (rowAt l)
theorem rowsAt_range (l : List (List Int)) : rowsAt l (List.range l.length) = l := by
  apply List.ext_getElem
  · simp [rowsAt]
  · intro i h1 h2
    simp [rowsAt, rowAt, h2]
theorem rows_perm {l : List (List Int)} {p : List Nat} (h : IsPl l l.length p) : (rowsAt l p).Perm l := by
  have := h.1.map (rowAt l)
  have e := rowsAt_range l
  unfold rowsAt at e ⊢
  rwa [e] at this
theorem rows_sorted {l : List (List Int)} : ∀ {p : List Nat}, p.Pairwise (ilt l) → sortedS (rowsAt l p) = true
  | [], _ => rfl
  | a :: p, h => by
    rw [List.pairwise_cons] at h
    refine sortedS_mk (rows_sorted h.2) fun x hx => ?_
    obtain ⟨b, hb, rfl⟩ := List.mem_map.1 hx
    have := h.1 b hb
    unfold ilt at this
    omega
theorem sorted_place : ∀ (l : List (List Int)), sortedS l = true → (List.range l.length).Pairwise (ilt l) := by
  intro l h
  rw [List.pairwise_iff_getElem]
  intro i j hi hj hij
  simp only [List.length_range] at hi hj
  simp only [List.getElem_range]
  have key : ∀ (l : List (List Int)), sortedS l = true → ∀ i j, i < j → j < l.length → cmpS (rowAt l i) (rowAt l j) ≤ 0 := by
    intro l
    induction l with
    | nil => intro _ i j _ hj; simp at hj
    | cons a r ih =>
      intro h i j hij hj
      have hc := sortedS_cons h
      match i, j, hij, hj with
      | 0, j + 1, _, hj =>
        refine hc.2 (rowAt (a :: r) (j + 1)) ?_
        have hj' : j < r.length := by simpa using hj
        show r.getD j [] ∈ r
        rw [List.getD_eq_getElem?_getD, List.getElem?_eq_getElem hj']
        exact List.getElem_mem hj'
      | i + 1, j + 1, hij, hj => exact ih hc.1 i j (by omega) (by simpa using hj)
  have := key l h i j hij hj
  unfold ilt
  omega
theorem sorted_rows {l : List (List Int)} {p : List Nat} (h : IsPl l l.length p) (hs : sortedS l = true) : rowsAt l p = l := by
  have := place_unique h ⟨List.Perm.refl _, sorted_place l hs⟩
  rw [this, rowsAt_range]
theorem rows_same {l m : List (List Int)} {p q : List Nat} (hp : IsPl l l.length p) (hq : IsPl m m.length q) (h : l.Perm m) : rowsAt l p = rowsAt m q :=
  sorted_same _ _ ((rows_perm hp).trans (h.trans (rows_perm hq).symm)) (rows_sorted hp.2) (rows_sorted hq.2)
theorem rotate_perm {α : Type} (l : List α) (k : Nat) : (l.drop k ++ l.take k).Perm l := by
  have := List.perm_append_comm (l₁ := l.drop k) (l₂ := l.take k)
  rwa [List.take_append_drop] at this
end Go.Proofs.Ytdncmdpacidgmaa
