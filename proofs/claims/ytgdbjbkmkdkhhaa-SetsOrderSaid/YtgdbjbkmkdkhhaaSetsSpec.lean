/- The order of byte strings as a plain function: an order, of which equality alone is even. No conditions. -/
import Derived.Test.YtgdbjbkmkdkhhaaBase
namespace Go.Proofs.Ytgdbjbkmkdkhhaa

/-- -1 ahead, 0 the same, 1 behind -/
def cmpS : List Int → List Int → Int
  | [], [] => 0
  | [], _ :: _ => -1
  | _ :: _, [] => 1
  | x :: xs, y :: ys => if x < y then -1 else if y < x then 1 else cmpS xs ys

theorem cmpS_range : ∀ a b : List Int, cmpS a b = -1 ∨ cmpS a b = 0 ∨ cmpS a b = 1
  | [], [] => .inr (.inl rfl)
  | [], _ :: _ => .inl rfl
  | _ :: _, [] => .inr (.inr rfl)
  | x :: xs, y :: ys => by
    rw [cmpS]
    split
    · exact .inl rfl
    · split
      · exact .inr (.inr rfl)
      · exact cmpS_range xs ys
theorem cmpS_eq : ∀ a b : List Int, cmpS a b = 0 ↔ a = b
  | [], [] => by simp [cmpS]
  | [], _ :: _ => by simp [cmpS]
  | _ :: _, [] => by simp [cmpS]
  | x :: xs, y :: ys => by
    rw [cmpS]
    split
    · simp; omega
    · split
      · simp; omega
      · rw [cmpS_eq xs ys, List.cons.injEq]
        constructor
        · intro h; exact ⟨by omega, h⟩
        · intro h; exact h.2
theorem cmpS_turn : ∀ a b : List Int, cmpS b a = -cmpS a b
  | [], [] => rfl
  | [], _ :: _ => rfl
  | _ :: _, [] => rfl
  | x :: xs, y :: ys => by
    rw [cmpS, cmpS]
    by_cases h1 : x < y
    · rw [if_neg (by omega), if_pos h1, if_pos h1]; rfl
    · by_cases h2 : y < x
      · rw [if_pos h2, if_neg h1, if_pos h2]
      · rw [if_neg h2, if_neg h1, if_neg h1, if_neg h2, cmpS_turn xs ys]
theorem cmpS_trans : ∀ a b c : List Int, cmpS a b ≤ 0 → cmpS b c ≤ 0 → cmpS a c ≤ 0 ∧ (cmpS a b < 0 → cmpS a c < 0) ∧ (cmpS b c < 0 → cmpS a c < 0)
  | [], [], [] => by simp [cmpS]
  | [], [], _ :: _ => by simp [cmpS]
  | [], _ :: _, [] => by simp [cmpS]
  | [], _ :: _, _ :: _ => by simp [cmpS]
  | _ :: _, [], _ => by simp [cmpS]
  | _ :: _, _ :: _, [] => by simp [cmpS]
  | x :: xs, y :: ys, z :: zs => by
    intro h1 h2
    have ih := cmpS_trans xs ys zs
    have e1 : cmpS (x :: xs) (y :: ys) = if x < y then -1 else if y < x then 1 else cmpS xs ys := by rw [cmpS]
    have e2 : cmpS (y :: ys) (z :: zs) = if y < z then -1 else if z < y then 1 else cmpS ys zs := by rw [cmpS]
    have e3 : cmpS (x :: xs) (z :: zs) = if x < z then -1 else if z < x then 1 else cmpS xs zs := by rw [cmpS]
    generalize cmpS (x :: xs) (y :: ys) = p at *
    generalize cmpS (y :: ys) (z :: zs) = q at *
    generalize cmpS (x :: xs) (z :: zs) = r at *
    split at e1
    · split at e2
      · rw [if_pos (by omega)] at e3; omega
      · split at e2
        · omega
        · rw [if_pos (by omega)] at e3; omega
    · split at e1
      · omega
      · split at e2
        · rw [if_pos (by omega)] at e3; omega
        · split at e2
          · omega
          · rw [if_neg (by omega), if_neg (by omega)] at e3
            rw [e1] at h1 ⊢
            rw [e2] at h2 ⊢
            rw [e3]
            exact ih h1 h2
theorem cmpS_pre : ∀ (a b c : List Int), cmpS (a ++ b) (a ++ c) = cmpS b c
  | [], _, _ => rfl
  | x :: a, b, c => by
    rw [List.cons_append, List.cons_append, cmpS, if_neg (by omega), if_neg (by omega), cmpS_pre a b c]

/-- no one is ahead of the one before it -/
def sortedS : List (List Int) → Bool
  | [] => true
  | [_] => true
  | a :: b :: r => decide (0 ≤ cmpS b a) && sortedS (b :: r)

theorem sortedS_cons {a : List Int} {l : List (List Int)} (h : sortedS (a :: l) = true) : sortedS l = true ∧ ∀ x ∈ l, cmpS a x ≤ 0 := by
  induction l generalizing a with
  | nil => exact ⟨rfl, fun _ hx => by cases hx⟩
  | cons b r ih =>
    simp only [sortedS, Bool.and_eq_true, decide_eq_true_eq] at h
    obtain ⟨h1, h2⟩ := h
    have ht := cmpS_turn b a
    refine ⟨h2, fun x hx => ?_⟩
    rcases List.mem_cons.1 hx with rfl | hx
    · omega
    · exact (cmpS_trans a b x (by omega) ((ih h2).2 x hx)).1
theorem sortedS_mk {a : List Int} {l : List (List Int)} (h : sortedS l = true) (h1 : ∀ x ∈ l, cmpS a x ≤ 0) : sortedS (a :: l) = true := by
  match l, h, h1 with
  | [], _, _ => rfl
  | b :: r, h, h1 =>
    simp only [sortedS, Bool.and_eq_true, decide_eq_true_eq]
    have := cmpS_turn a b
    exact ⟨by have := h1 b (List.mem_cons_self ..); omega, h⟩

/-- rows of the same elements, both in order, are the same -/
theorem sorted_same : ∀ (l m : List (List Int)), l.Perm m → sortedS l = true → sortedS m = true → l = m
  | [], m, hp, _, _ => (List.Perm.nil_eq hp)
  | a :: l, [], hp, _, _ => by have := hp.length_eq; simp at this
  | a :: l, b :: m, hp, h1, h2 => by
    have s1 := sortedS_cons h1
    have s2 := sortedS_cons h2
    have hab : a = b := by
      have ha : a ∈ b :: m := hp.mem_iff.1 (List.mem_cons_self ..)
      have hb : b ∈ a :: l := hp.mem_iff.2 (List.mem_cons_self ..)
      rcases List.mem_cons.1 ha with rfl | ha
      · rfl
      · rcases List.mem_cons.1 hb with hb | hb
        · exact hb.symm
        · have e1 := s2.2 a ha
          have e2 := s1.2 b hb
          have e3 := cmpS_turn a b
          exact (cmpS_eq a b).1 (by omega)
    subst hab
    rw [sorted_same l m (List.perm_cons a |>.1 hp) s1.1 s2.1]

end Go.Proofs.Ytgdbjbkmkdkhhaa
