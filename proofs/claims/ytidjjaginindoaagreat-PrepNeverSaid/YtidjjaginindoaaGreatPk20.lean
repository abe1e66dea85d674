/- Several texts in one: UcdWakes, LawPairs6, CompFacts, NormSpec, NormFacts, Ref10a, Cmp10a. -/
import Derived.Test.YtidjjaginindoaaGreatPk15
import Derived.Test.YtidjjaginindoaaGreatPk3
import Derived.Test.YtidjjaginindoaaGreatPk14
import Derived.Test.YtidjjaginindoaaGreatPk11
import Derived.Test.YtidjjaginindoaaGreatPk7
import Derived.Test.YtidjjaginindoaaGreatPk4
import Derived.Test.YtidjjaginindoaaGreatPk18
import Derived.Test.YtidjjaginindoaaGreatPk19
import Derived.Carry
import Derived.Maps.Keyed
import Derived.Maps.OwnSet
import Derived.DeepKeys4
import Derived.DataBytes
/-! UcdWakes -/
namespace Go.Proofs.YtidjjaginindoaaGreat
open Go.RowKit

end Go.Proofs.YtidjjaginindoaaGreat

/-! LawPairs6 -/
namespace Go.Proofs.YtidjjaginindoaaGreat
open Go.RowKit

theorem fndS_true {p : Rg → Bool} : ∀ {l : List Rg}, (fndS p l).2 = true → (fndS p l).1 ∈ l ∧ p (fndS p l).1 = true
  | [], h => by simp [fndS] at h
  | r :: l, h => by
    by_cases hp : p r = true
    · rw [fndS, if_pos hp]
      exact ⟨List.mem_cons_self .., hp⟩
    · rw [fndS, if_neg hp] at h ⊢
      have := fndS_true h
      exact ⟨List.mem_cons_of_mem _ this.1, this.2⟩
theorem fndS_false {p : Rg → Bool} : ∀ {l : List Rg}, (fndS p l).2 = false → (fndS p l).1 = noRg
  | [], _ => rfl
  | r :: l, h => by
    by_cases hp : p r = true
    · rw [fndS, if_pos hp] at h
      simp at h
    · rw [fndS, if_neg hp] at h ⊢
      exact fndS_false h
theorem pair_facts {a b : Int} (h : (pairS a b).2 = true) : canonS (pairS a b).1 = [a, b] ∧ classS (pairS a b).1 = 0 ∧ classS a = 0 ∧ scalarB (pairS a b).1 = true ∧ (b != 0) = true ∧ mapS tabCompat (pairS a b).1 = [] := by
  obtain ⟨hm, hp⟩ := fndS_true (p := fun r => r.t == a && r.v == b) (l := tabPair) h
  have hf := List.all_eq_true.1 f_pairs _ hm
  simp only [Bool.and_eq_true, beq_iff_eq] at hf hp
  obtain ⟨h1, h2, h3, h4, h5, h6⟩ := hf
  rw [hp.1, hp.2] at h1
  rw [hp.1] at h3
  rw [hp.2] at h5
  exact ⟨h1, h2, h3, h4, h5, h6⟩

end Go.Proofs.YtidjjaginindoaaGreat

/-! CompFacts -/
namespace Go.Proofs.YtidjjaginindoaaGreat
open Go.RowKit

def twoS (a b : Int) : Int × Bool := if (joinS a b).2 then ((joinS a b).1, true) else pairS a b
theorem look_zero {l : List Rg} {c : Int} (h : ∀ r ∈ l, ¬ (r.f ≤ c ∧ c ≤ r.t)) : lookS l c = 0 := by
  induction l with
  | nil => rfl
  | cons r l ih =>
    unfold lookS
    rw [if_neg (h r (by simp))]
    exact ih fun r hr => h r (by simp [hr])
theorem class_off : (tabClasses.all fun r => decide ((r.t < 4352 ∨ 4546 < r.f) ∧ (r.t < 44032 ∨ 55203 < r.f))) = true := by decide +kernel
theorem class_letter {c : Int} (h : (4352 ≤ c ∧ c ≤ 4546) ∨ (44032 ≤ c ∧ c ≤ 55203)) : classS c = 0 := by
  unfold classS
  split
  · refine look_zero fun r hr hc => ?_
    have := List.all_eq_true.1 class_off r hr
    rw [decide_eq_true_iff] at this
    omega
  · rfl
theorem join_cases {a b : Int} (h : (joinS a b).2 = true) :
    (4352 ≤ a ∧ a ≤ 4370 ∧ 4449 ≤ b ∧ b ≤ 4469 ∧ (joinS a b).1 = 44032 + ((a - 4352) * 21 + (b - 4449)) * 28) ∨
    (44032 ≤ a ∧ a ≤ 55203 ∧ (a - 44032) % 28 = 0 ∧ 4520 ≤ b ∧ b ≤ 4546 ∧ (joinS a b).1 = a + b - 4519) := by
  unfold joinS at h ⊢
  by_cases h1 : 4352 ≤ a ∧ a ≤ 4370 ∧ 4449 ≤ b ∧ b ≤ 4469
  · rw [if_pos h1]
    exact .inl ⟨h1.1, h1.2.1, h1.2.2.1, h1.2.2.2, rfl⟩
  · rw [if_neg h1] at h ⊢
    by_cases h2 : 44032 ≤ a ∧ a ≤ 55203 ∧ (a - 44032) % 28 = 0 ∧ 4520 ≤ b ∧ b ≤ 4546
    · rw [if_pos h2]
      exact .inr ⟨h2.1, h2.2.1, h2.2.2.1, h2.2.2.2.1, h2.2.2.2.2, rfl⟩
    · rw [if_neg h2] at h
      cases h
theorem two_zero {a b : Int} (h : (twoS a b).2 = true) : classS a = 0 := by
  unfold twoS at h
  split at h
  · rename_i hj
    rcases join_cases hj with ⟨h0, h1, _⟩ | ⟨h0, h1, _⟩
    · exact class_letter (by omega)
    · exact class_letter (by omega)
  · exact (pair_facts h).2.2.1
theorem two_inI {a b : Int} (h : (twoS a b).2 = true) : inI (twoS a b).1 = true := by
  unfold twoS at h ⊢
  split at h
  · rename_i hj
    rw [if_pos hj]
    unfold inI
    rw [decide_eq_true_iff]
    rcases join_cases hj with ⟨h0, h1, h2, h3, he⟩ | ⟨h0, h1, h2, h3, h4, he⟩
    · show _ ≤ (joinS a b).1 ∧ (joinS a b).1 ≤ _
      rw [he]
      omega
    · show _ ≤ (joinS a b).1 ∧ (joinS a b).1 ≤ _
      rw [he]
      omega
  · rename_i hj
    rw [if_neg hj]
    exact scalar_inI (pair_facts h).2.2.2.1
theorem split_syll {l v t : Nat} (hl : l < 19) (hv : v < 21) (ht : t < 28) : splitS (44032 + (((21 * l + v) * 28 + t : Nat) : Int)) = if t = 0 then [4352 + (l : Int), 4449 + (v : Int)] else [4352 + (l : Int), 4449 + (v : Int), 4519 + (t : Int)] := by
  rw [splitS_in (by omega), parts_lvt hv ht]
theorem one_letter {c : Int} (h0 : 4352 ≤ c) (h1 : c ≤ 4546) : oneS false c = [c] := oneS_of_plain (letter_plain false h0 h1)
theorem rows_off10 : (tabCanon.all fun r => decide (r.f < 44032 ∨ 55203 < r.f)) = true := by decide +kernel
theorem canon_nosplit10 {c : Int} (h : canonS c ≠ []) : splitS c = [] := by
  obtain ⟨r, hr, rfl⟩ := canon_key h
  have := List.all_eq_true.1 rows_off10 r hr
  simp only [decide_eq_true_eq] at this
  exact splitS_out (by omega)
theorem two_apart {a b : Int} (h : (twoS a b).2 = true) : oneS false (twoS a b).1 = oneS false a ++ oneS false b := by
  have hi := two_inI h
  unfold twoS at h hi ⊢
  split at h
  · rename_i hj
    rw [if_pos hj]
    show oneS false (joinS a b).1 = _
    rcases join_cases hj with ⟨h0, h1, h2, h3, he⟩ | ⟨h0, h1, h2, h3, h4, he⟩
    · obtain ⟨l, hl⟩ : ∃ l : Nat, a = 4352 + (l : Int) := ⟨(a - 4352).toNat, by omega⟩
      obtain ⟨v, hv⟩ : ∃ v : Nat, b = 4449 + (v : Int) := ⟨(b - 4449).toNat, by omega⟩
      have hs := split_syll (l := l) (v := v) (t := 0) (by omega) (by omega) (by omega)
      rw [if_pos rfl] at hs
      have e : (joinS a b).1 = 44032 + (((21 * l + v) * 28 + 0 : Nat) : Int) := by rw [he]; omega
      rw [e, one_letter h0 (by omega), one_letter (c := b) (by omega) (by omega)]
      have := one_split (k := false) (c := 44032 + (((21 * l + v) * 28 + 0 : Nat) : Int)) (by rw [hs]; simp) 3
      rw [show oneS false (44032 + (((21 * l + v) * 28 + 0 : Nat) : Int)) = oneN false (3 + 1) (44032 + (((21 * l + v) * 28 + 0 : Nat) : Int)) from rfl, this, hs, hl, hv]
      rfl
    · obtain ⟨m, hm⟩ : ∃ m : Nat, a = 44032 + ((m * 28 : Nat) : Int) := ⟨((a - 44032) / 28).toNat, by omega⟩
      obtain ⟨t, ht⟩ : ∃ t : Nat, b = 4519 + (t : Int) := ⟨(b - 4519).toNat, by omega⟩
      have hlv : m = 21 * (m / 21) + m % 21 := by omega
      have hs1 := split_syll (l := m / 21) (v := m % 21) (t := 0) (by omega) (by omega) (by omega)
      rw [if_pos rfl, ← hlv] at hs1
      have hs2 := split_syll (l := m / 21) (v := m % 21) (t := t) (by omega) (by omega) (by omega)
      rw [if_neg (by omega), ← hlv] at hs2
      have e1 : a = 44032 + ((m * 28 + 0 : Nat) : Int) := hm
      have e2 : (joinS a b).1 = 44032 + ((m * 28 + t : Nat) : Int) := by rw [he]; omega
      rw [e2, one_letter (c := b) (by omega) (by omega), e1]
      have g1 := one_split (k := false) (c := 44032 + ((m * 28 + 0 : Nat) : Int)) (by rw [hs1]; simp) 3
      have g2 := one_split (k := false) (c := 44032 + ((m * 28 + t : Nat) : Int)) (by rw [hs2]; simp) 3
      rw [show oneS false (44032 + ((m * 28 + 0 : Nat) : Int)) = oneN false (3 + 1) (44032 + ((m * 28 + 0 : Nat) : Int)) from rfl, show oneS false (44032 + ((m * 28 + t : Nat) : Int)) = oneN false (3 + 1) (44032 + ((m * 28 + t : Nat) : Int)) from rfl, g1, g2, hs1, hs2, ht]
      rfl
  · rename_i hj
    rw [if_neg hj] at hi ⊢
    obtain ⟨hc, -⟩ := pair_facts h
    have hs : splitS (pairS a b).1 = [] := canon_nosplit10 (by rw [hc]; simp)
    have ht : stepS false (pairS a b).1 = [a, b] := by rw [step_canon (by rw [hc]; simp), hc]
    rw [one_parts hi hs (by rw [ht]; simp), ht]
    unfold allS
    simp
set_option maxRecDepth 1000000 in
theorem class_rows10 : (tabCanon.all fun r => classS r.f == 0 || (oneS false r.f).all fun x => classS x == classS r.f) = true := by decide +kernel
theorem class_apart {y : Int} (h : classS y ≠ 0) : ∀ x ∈ oneS false y, classS x = classS y := by
  intro x hx
  have hs : splitS y = [] := splitS_out (fun hc => h (class_letter (.inr hc)))
  by_cases hc : canonS y = []
  · have hp : oneS false y = [y] := oneS_of_plain ⟨hs, by unfold stepS; rw [hc]; rfl⟩
    rw [hp] at hx
    obtain rfl : x = y := by simpa using hx
    rfl
  · obtain ⟨r, hr, he⟩ := canon_key hc
    have := List.all_eq_true.1 class_rows10 r hr
    rw [he] at this
    simp only [Bool.or_eq_true, beq_iff_eq, List.all_eq_true] at this
    rcases this with this | this
    · exact absurd this h
    · exact this x hx
end Go.Proofs.YtidjjaginindoaaGreat

/-! NormSpec -/
namespace Go.Proofs.YtidjjaginindoaaGreat
open Go.RowKit

def apartS (k : Bool) (s : List Int) : List Int := putO classS (allS k s)
def formS (k : Bool) (s : List Int) : List Int := compG classS twoS (apartS k s)
/-- the second number of a composite -/
def secondB (c : Int) : Bool := tabCanon.any fun x => x.v == c && (c != 0 && ((pairS x.t c).2 && (pairS x.t c).1 == x.f))
def quickB (k : Bool) (c : Int) : Bool := (oneS k c == [c] && classS c == 0) && (!(decide (4449 ≤ c ∧ c ≤ 4469) || decide (4520 ≤ c ∧ c ≤ 4546)) && !secondB c)
def quickS (k : Bool) (s : List Int) : Bool := s.all (quickB k)

/-- compatible or not: what two numbers make comes apart to what they do -/
theorem two_apartK {k : Bool} {a b : Int} (h : (twoS a b).2 = true) : oneS k (twoS a b).1 = oneS k a ++ oneS k b := by
  have hi := two_inI h
  have hl : ∀ c : Int, 4352 ≤ c → c ≤ 4546 → oneS k c = [c] := fun c h0 h1 => oneS_of_plain (letter_plain k h0 h1)
  unfold twoS at h hi ⊢
  split at h
  · rename_i hj
    rw [if_pos hj]
    show oneS k (joinS a b).1 = _
    rcases join_cases hj with ⟨h0, h1, h2, h3, he⟩ | ⟨h0, h1, h2, h3, h4, he⟩
    · obtain ⟨l, hl'⟩ : ∃ l : Nat, a = 4352 + (l : Int) := ⟨(a - 4352).toNat, by omega⟩
      obtain ⟨v, hv⟩ : ∃ v : Nat, b = 4449 + (v : Int) := ⟨(b - 4449).toNat, by omega⟩
      have hs := split_syll (l := l) (v := v) (t := 0) (by omega) (by omega) (by omega)
      rw [if_pos rfl] at hs
      have e : (joinS a b).1 = 44032 + (((21 * l + v) * 28 + 0 : Nat) : Int) := by rw [he]; omega
      rw [e, hl a h0 (by omega), hl b (by omega) (by omega)]
      have := one_split (k := k) (c := 44032 + (((21 * l + v) * 28 + 0 : Nat) : Int)) (by rw [hs]; simp) 3
      rw [show oneS k (44032 + (((21 * l + v) * 28 + 0 : Nat) : Int)) = oneN k (3 + 1) (44032 + (((21 * l + v) * 28 + 0 : Nat) : Int)) from rfl, this, hs, hl', hv]
      rfl
    · obtain ⟨m, hm⟩ : ∃ m : Nat, a = 44032 + ((m * 28 : Nat) : Int) := ⟨((a - 44032) / 28).toNat, by omega⟩
      obtain ⟨t, ht⟩ : ∃ t : Nat, b = 4519 + (t : Int) := ⟨(b - 4519).toNat, by omega⟩
      have hlv : m = 21 * (m / 21) + m % 21 := by omega
      have hs1 := split_syll (l := m / 21) (v := m % 21) (t := 0) (by omega) (by omega) (by omega)
      rw [if_pos rfl, ← hlv] at hs1
      have hs2 := split_syll (l := m / 21) (v := m % 21) (t := t) (by omega) (by omega) (by omega)
      rw [if_neg (by omega), ← hlv] at hs2
      have e1 : a = 44032 + ((m * 28 + 0 : Nat) : Int) := hm
      have e2 : (joinS a b).1 = 44032 + ((m * 28 + t : Nat) : Int) := by rw [he]; omega
      rw [e2, hl b (by omega) (by omega), e1]
      have g1 := one_split (k := k) (c := 44032 + ((m * 28 + 0 : Nat) : Int)) (by rw [hs1]; simp) 3
      have g2 := one_split (k := k) (c := 44032 + ((m * 28 + t : Nat) : Int)) (by rw [hs2]; simp) 3
      rw [show oneS k (44032 + ((m * 28 + 0 : Nat) : Int)) = oneN k (3 + 1) (44032 + ((m * 28 + 0 : Nat) : Int)) from rfl, show oneS k (44032 + ((m * 28 + t : Nat) : Int)) = oneN k (3 + 1) (44032 + ((m * 28 + t : Nat) : Int)) from rfl, g1, g2, hs1, hs2, ht]
      rfl
  · rename_i hj
    rw [if_neg hj] at hi ⊢
    obtain ⟨hc, -⟩ := pair_facts h
    have hs : splitS (pairS a b).1 = [] := canon_nosplit10 (by rw [hc]; simp)
    have ht : stepS k (pairS a b).1 = [a, b] := by rw [step_canon (by rw [hc]; simp), hc]
    rw [one_parts hi hs (by rw [ht]; simp), ht]
    unfold allS
    simp
set_option maxRecDepth 1000000 in
theorem class_rows11 : (tabCanon.all fun r => classS r.f == 0 || (oneS true r.f).all fun x => classS x == classS r.f) = true := by decide +kernel
set_option maxRecDepth 1000000 in
theorem class_rows11k : (tabCompat.all fun m => classS m.f == 0 || (oneS true m.f).all fun x => classS x == classS m.f) = true := by decide +kernel
theorem class_apartK {k : Bool} {y : Int} (h : classS y ≠ 0) : ∀ x ∈ oneS k y, classS x = classS y := by
  cases k with
  | false => exact class_apart h
  | true =>
    intro x hx
    have hs : splitS y = [] := splitS_out (fun hc => h (class_letter (.inr hc)))
    by_cases hc : canonS y = []
    · by_cases hm : mapS tabCompat y = []
      · have hp : oneS true y = [y] := oneS_of_plain ⟨hs, by unfold stepS; rw [hc]; exact hm⟩
        rw [hp] at hx
        obtain rfl : x = y := by simpa using hx
        rfl
      · obtain ⟨r, hr, he⟩ := map_key hm
        have := List.all_eq_true.1 class_rows11k r hr
        rw [he] at this
        simp only [Bool.or_eq_true, beq_iff_eq, List.all_eq_true] at this
        rcases this with this | this
        · exact absurd this h
        · exact this x hx
    · obtain ⟨r, hr, he⟩ := canon_key hc
      have := List.all_eq_true.1 class_rows11 r hr
      rw [he] at this
      simp only [Bool.or_eq_true, beq_iff_eq, List.all_eq_true] at this
      rcases this with this | this
      · exact absurd this h
      · exact this x hx
/-- the composition of what is in order comes apart as it does -/
theorem comp_apart (k : Bool) {A : List Int} (h : ordG classS A = true) : putO classS (allS k (compG classS twoS A)) = putO classS (allS k A) :=
  comp_same (o := oneS k) class_pos (fun _ _ h => two_apartK h) (fun _ h => class_apartK h) A h
theorem put_all (k : Bool) (s : List Int) : putO classS (allS k (putO classS s)) = putO classS (allS k s) := put_flat (o := oneS k) (fun _ h => class_apartK h) class_pos s
theorem put_memG {cl : Int → Int} {s : List Int} {x : Int} (h : x ∈ putO cl s) : x ∈ s := by
  have k2 : ∀ (y : Int) (acc : List Int), x ∈ insG cl y acc → x = y ∨ x ∈ acc := fun y acc => by
    induction acc with
    | nil => intro h; exact .inl (by simpa [insG] using h)
    | cons z r ih =>
      intro h
      rw [insG] at h
      split at h
      · rcases List.mem_cons.1 h with h | h
        · exact .inr (by simp [h])
        · rcases ih h with h | h
          · exact .inl h
          · exact .inr (List.mem_cons_of_mem _ h)
      · rcases List.mem_cons.1 h with h | h
        · exact .inl h
        · exact .inr h
  have key : ∀ (s acc : List Int), x ∈ putFrom cl s acc → x ∈ s ∨ x ∈ acc := fun s => by
    induction s with
    | nil => intro acc h; exact .inr h
    | cons y s ih =>
      intro acc h
      rcases ih _ h with h | h
      · exact .inl (List.mem_cons_of_mem _ h)
      · rcases k2 y acc h with h | h
        · exact .inl (by simp [h])
        · exact .inr h
  unfold putO at h
  rw [List.mem_reverse] at h
  rcases key s [] h with h | h
  · exact h
  · cases h
theorem apart_plain {k : Bool} {s : List Int} (hi : s.all inI = true) : ∀ x ∈ apartS k s, PlainS k x := fun x hx => allS_mem hi x (put_memG hx)
theorem plain_down {k : Bool} {x : Int} (h : PlainS k x) : PlainS false x := by
  refine ⟨h.1, ?_⟩
  by_cases hc : canonS x = []
  · unfold stepS
    rw [hc]
    rfl
  · have := h.2
    rw [step_canon hc] at this
    exact absurd this hc
theorem apart_ord (k : Bool) (s : List Int) : ordG classS (apartS k s) = true := put_ord class_pos _
theorem apart_apart {k : Bool} {s : List Int} (hi : s.all inI = true) : apartS k (apartS k s) = apartS k s := by
  show putO classS (allS k (apartS k s)) = _
  rw [allS_plain (apart_plain hi)]
  exact put_same (apart_ord k s)
theorem apart_form {k : Bool} {s : List Int} (hi : s.all inI = true) : apartS k (formS k s) = apartS k s := by
  show putO classS (allS k (compG classS twoS (apartS k s))) = _
  rw [comp_apart k (apart_ord k s)]
  exact apart_apart hi
theorem form_apart {k : Bool} {s : List Int} (hi : s.all inI = true) : formS k (apartS k s) = formS k s := by
  unfold formS
  rw [apart_apart hi]
theorem form_form {k : Bool} {s : List Int} (hi : s.all inI = true) : formS k (formS k s) = formS k s := by
  show compG classS twoS (apartS k (formS k s)) = _
  rw [apart_form hi]
  rfl
/-- first canonically, then compatibly -/
theorem apart_true_apart {s : List Int} (hi : s.all inI = true) : apartS true (apartS false s) = apartS true s := by
  show putO classS (allS true (putO classS (allS false s))) = putO classS (allS true s)
  rw [put_all, allS_twice hi]
theorem apart_true_form {s : List Int} (hi : s.all inI = true) : apartS true (formS false s) = apartS true s := by
  show putO classS (allS true (compG classS twoS (apartS false s))) = _
  rw [comp_apart true (apart_ord false s)]
  exact apart_true_apart hi
theorem form_true_form {s : List Int} (hi : s.all inI = true) : formS true (formS false s) = formS true s := by
  show compG classS twoS (apartS true (formS false s)) = _
  rw [apart_true_form hi]
  rfl
theorem form_true_apart {s : List Int} (hi : s.all inI = true) : formS true (apartS false s) = formS true s := by
  show compG classS twoS (apartS true (apartS false s)) = _
  rw [apart_true_apart hi]
  rfl
theorem form_false_form {s : List Int} (hi : s.all inI = true) : formS false (formS true s) = formS true s := by
  have h : apartS false (formS true s) = apartS true s := by
    show putO classS (allS false (compG classS twoS (apartS true s))) = _
    rw [comp_apart false (apart_ord true s), allS_plain (fun x hx => plain_down (apart_plain hi x hx))]
    exact put_same (apart_ord true s)
  show compG classS twoS (apartS false (formS true s)) = _
  rw [h]
  rfl
/-- the same canonically, the same compatibly -/
theorem same_true {a b : List Int} (ha : a.all inI = true) (hb : b.all inI = true) (h : formS false a = formS false b) : formS true a = formS true b := by
  rw [← form_true_form ha, h, form_true_form hb]
theorem turn_form {x y : Int} (hx : classS x ≠ 0) (hy : classS y ≠ 0) (hxy : classS x ≠ classS y) (a b : List Int) : formS false (a ++ x :: y :: b) = formS false (a ++ y :: x :: b) := by
  have : apartS false (a ++ x :: y :: b) = apartS false (a ++ y :: x :: b) := turn_flat (o := oneS false) (fun _ h => class_apartK h) class_pos hx hy hxy a b
  unfold formS
  rw [this]
end Go.Proofs.YtidjjaginindoaaGreat

/-! NormFacts -/
namespace Go.Proofs.YtidjjaginindoaaGreat
open Go.RowKit

theorem comp_id {cl : Int → Int} {two : Int → Int → Int × Bool} {s : List Int} (h : ∀ c ∈ s, ∀ S, (two S c).2 = false) : compG cl two s = s := by
  have key : ∀ (s : List Int) (q : Cp), (∀ c ∈ s, ∀ S, (two S c).2 = false) → (s.foldl (stepG cl two) q).out = q.out ++ s := fun s => by
    induction s with
    | nil => intro q _; exact (List.append_nil _).symm
    | cons c s ih =>
      intro q h
      rw [List.foldl_cons, ih _ (fun x hx => h x (List.mem_cons_of_mem _ hx))]
      rcases step_out (cl := cl) (two := two) q c with ⟨S, -, hh, -⟩ | ⟨-, he⟩
      · rw [h c (by simp) S] at hh
        cases hh
      · rw [he, List.append_assoc]
        rfl
  exact key s _ h
theorem fndS_key {p : Rg → Bool} {l : List Rg} (h : (fndS p l).2 = true) : (fndS p l).1 ∈ l ∧ p (fndS p l).1 = true := fndS_true (p := p) (l := l) h
theorem canon_row11 {m a b : Int} (h : canonS m = [a, b]) : ∃ r ∈ tabCanon, r.f = m ∧ r.t = a ∧ r.v = b ∧ b ≠ 0 := by
  unfold canonS at h
  split at h
  · unfold rowS at h
    split at h
    · rename_i hf
      obtain ⟨hm, hp⟩ := fndS_key hf
      split at h
      · cases h
      · rename_i hv
        injection h with h1 h2
        injection h2 with h2 _
        refine ⟨_, hm, by simpa using hp, h1, h2, ?_⟩
        rw [← h2]
        simpa using hv
    · cases h
  · cases h
theorem second_of {a c : Int} (h : (pairS a c).2 = true) : secondB c = true := by
  obtain ⟨hc, -⟩ := pair_facts h
  obtain ⟨r, hr, hf, ht, hv, h0⟩ := canon_row11 hc
  unfold secondB
  rw [List.any_eq_true]
  refine ⟨r, hr, ?_⟩
  rw [ht, hv, hf, h]
  simp [h0]
theorem quick_two {k : Bool} {c : Int} (h : quickB k c = true) (S : Int) : (twoS S c).2 = false := by
  unfold quickB at h
  simp only [Bool.and_eq_true, Bool.not_eq_true', Bool.or_eq_false_iff, decide_eq_false_iff_not] at h
  obtain ⟨-, ⟨h1, h2⟩, h3⟩ := h
  cases ht : (twoS S c).2 with
  | false => rfl
  | true =>
    unfold twoS at ht
    split at ht
    · rename_i hj
      rcases join_cases hj with ⟨_, _, g⟩ | ⟨_, _, _, g⟩
      · exact absurd ⟨g.1, g.2.1⟩ h1
      · exact absurd ⟨g.1, g.2.1⟩ h2
    · rw [second_of ht] at h3
      cases h3
theorem zero_ord {cl : Int → Int} {s : List Int} (h : ∀ c ∈ s, cl c = 0) : ordG cl s = true :=
  ord_of fun i hi hc => hc.1 (by
    have e : s.getD (i + 1) 0 = s[i + 1] := by rw [List.getD_eq_getElem?_getD, List.getElem?_eq_getElem hi]; rfl
    rw [e]
    exact h _ (List.getElem_mem _))
theorem flat_id {f : Int → List Int} : ∀ {s : List Int}, (∀ c ∈ s, f c = [c]) → s.flatMap f = s
  | [], _ => rfl
  | x :: s, h => by
    rw [List.flatMap_cons, h x (by simp), flat_id (fun c hc => h c (List.mem_cons_of_mem _ hc))]
    rfl
theorem quick_form {k : Bool} {s : List Int} (h : quickS k s = true) : formS k s = s := by
  have hq := fun c hc => List.all_eq_true.1 h c hc
  have h1 : ∀ c ∈ s, oneS k c = [c] ∧ classS c = 0 := fun c hc => by
    have := hq c hc
    unfold quickB at this
    simp only [Bool.and_eq_true, beq_iff_eq] at this
    exact this.1
  unfold formS apartS
  rw [show allS k s = s from flat_id (fun c hc => (h1 c hc).1), put_same (zero_ord fun c hc => (h1 c hc).2)]
  exact comp_id fun c hc S => quick_two (hq c hc) S
theorem quick_app (k : Bool) (a b : List Int) : quickS k (a ++ b) = (quickS k a && quickS k b) := List.all_append ..

/- single scalars -/
def scalarOk (r : Rg) : Bool :=
  match canonS r.f with
  | [] => true
  | [_] => formS false [r.f] != [r.f]
  | x :: y :: _ => (formS false [r.f] == [r.f]) == ((pairS x y).2 && (pairS x y).1 == r.f)
set_option maxRecDepth 1000000 in
theorem scalar_rows : tabCanon.all scalarOk = true := by decide +kernel
theorem scalar_one {c x : Int} (h : canonS c = [x]) : formS false [c] ≠ [c] := by
  obtain ⟨r, hr, he⟩ := canon_key (c := c) (by rw [h]; simp)
  have := List.all_eq_true.1 scalar_rows r hr
  unfold scalarOk at this
  rw [he, h] at this
  simpa using this
theorem scalar_two {c x y : Int} (h : canonS c = [x, y]) : (formS false [c] == [c]) = ((pairS x y).2 && (pairS x y).1 == c) := by
  obtain ⟨r, hr, he⟩ := canon_key (c := c) (by rw [h]; simp)
  have := List.all_eq_true.1 scalar_rows r hr
  unfold scalarOk at this
  rw [he, h] at this
  exact eq_of_beq this
theorem canon_len (c : Int) : canonS c = [] ∨ (∃ x, canonS c = [x]) ∨ ∃ x y, canonS c = [x, y] := by
  unfold canonS
  split
  · unfold rowS
    split
    · split
      · exact .inr (.inl ⟨_, rfl⟩)
      · exact .inr (.inr ⟨_, _, rfl⟩)
    · exact .inl rfl
  · exact .inl rfl
/- syllables -/
theorem syll_num {n : Nat} (h : n ≤ 11171) : ∃ l v t : Nat, l < 19 ∧ v < 21 ∧ t < 28 ∧ n = (21 * l + v) * 28 + t := ⟨n / 588, n % 588 / 28, n % 28, by omega, by omega, by omega, by omega⟩
theorem letters_zero {n : Nat} (h : n ≤ 11171) : ∀ x ∈ partsN n, 4352 ≤ x ∧ x ≤ 4546 := fun x hx => by
  have := splitS_in h
  exact split_letters x (by rw [this]; exact hx)
theorem letters_all {k : Bool} {s : List Int} (h : ∀ x ∈ s, 4352 ≤ x ∧ x ≤ 4546) : apartS k s = s := by
  unfold apartS
  rw [allS_plain (fun x hx => letter_plain k (h x hx).1 (h x hx).2), put_same (zero_ord fun x hx => class_letter (.inl (h x hx)))]
/-- a syllable behind which nothing is composed -/
theorem pair_letter {S c : Int} (h0 : 4352 ≤ c) (h1 : c ≤ 4546) : (pairS S c).2 = false := by
  cases hp : (pairS S c).2 with
  | false => rfl
  | true =>
    obtain ⟨hc, -⟩ := pair_facts hp
    obtain ⟨r, hr, -, -, hv, -⟩ := canon_row11 hc
    have hrows : (tabCanon.all fun r => decide (r.v < 4352 ∨ 4546 < r.v)) = true := by decide +kernel
    have := List.all_eq_true.1 hrows r hr
    rw [decide_eq_true_iff] at this
    omega
theorem two_lead {S : Int} {l : Nat} (h : l < 19) : (twoS S (4352 + (l : Int))).2 = false := by
  unfold twoS
  have hj : (joinS S (4352 + (l : Int))).2 = false := by
    cases hh : (joinS S (4352 + (l : Int))).2 with
    | false => rfl
    | true =>
      rcases join_cases hh with ⟨_, _, g, _⟩ | ⟨_, _, _, g, _⟩
      · omega
      · omega
  rw [hj]
  simp only [Bool.false_eq_true, if_false]
  exact pair_letter (by omega) (by omega)
/-- the letters of a syllable make it, whatever lies ahead -/
theorem fold_syll (q : Cp) {n : Nat} (h : n ≤ 11171) : (partsN n).foldl (stepG classS twoS) q = ⟨q.out, some (44032 + (n : Int)), []⟩ := by
  obtain ⟨l, v, t, hl, hv, ht, rfl⟩ := syll_num h
  rw [parts_lvt hv ht]
  have cz : ∀ x : Int, 4352 ≤ x → x ≤ 4546 → classS x = 0 := fun x h0 h1 => class_letter (.inl ⟨h0, h1⟩)
  have s1 : stepG classS twoS q (4352 + (l : Int)) = ⟨q.out, some (4352 + (l : Int)), []⟩ := step_new (cz _ (by omega) (by omega)) (fun S _ => by rw [two_lead hl]; rfl)
  have t2 : twoS (4352 + (l : Int)) (4449 + (v : Int)) = (44032 + (((21 * l + v) * 28 : Nat) : Int), true) := by
    unfold twoS
    rw [join_lv hl hv]
    rfl
  have s2 : stepG classS twoS ⟨q.out, some (4352 + (l : Int)), []⟩ (4449 + (v : Int)) = ⟨q.out, some (44032 + (((21 * l + v) * 28 : Nat) : Int)), []⟩ := by
    rw [step_join (S := 4352 + (l : Int)) rfl (by rw [t2]) rfl, t2]
  by_cases h0 : t = 0
  · subst h0
    rw [if_pos rfl, List.foldl_cons, List.foldl_cons, List.foldl_nil, s1, s2]
    rfl
  · rw [if_neg h0, List.foldl_cons, List.foldl_cons, List.foldl_cons, List.foldl_nil, s1, s2]
    have t3 : twoS (44032 + (((21 * l + v) * 28 : Nat) : Int)) (4519 + (t : Int)) = (44032 + (((21 * l + v) * 28 + t : Nat) : Int), true) := by
      unfold twoS
      rw [join_lvt (m := 21 * l + v) (by omega) (by omega) ht]
      rfl
    rw [step_join (S := 44032 + (((21 * l + v) * 28 : Nat) : Int)) rfl (by rw [t3]) rfl, t3]
theorem form_two {k : Bool} {a b : Nat} (ha : a ≤ 11171) (hb : b ≤ 11171) : formS k (partsN a ++ partsN b) = [44032 + (a : Int), 44032 + (b : Int)] := by
  unfold formS
  rw [letters_all (fun x hx => (List.mem_append.1 hx).elim (letters_zero ha x) (letters_zero hb x))]
  unfold compG fromG
  rw [List.foldl_append, fold_syll _ ha, fold_syll _ hb]
  rfl
theorem one_syll {k : Bool} {a : Nat} (ha : a ≤ 11171) : oneS k (44032 + (a : Int)) = partsN a := by
  have h := splitS_in ha
  have hne : splitS (44032 + (a : Int)) ≠ [] := by
    rw [h]
    unfold partsN
    split <;> simp
  have := one_split (k := k) hne 3
  rw [show oneS k (44032 + (a : Int)) = oneN k (3 + 1) (44032 + (a : Int)) from rfl, this, h]
theorem apart_two {k : Bool} {a b : Nat} (ha : a ≤ 11171) (hb : b ≤ 11171) : apartS k [44032 + (a : Int), 44032 + (b : Int)] = partsN a ++ partsN b := by
  have e : allS k [44032 + (a : Int), 44032 + (b : Int)] = partsN a ++ partsN b := by
    unfold allS
    simp only [List.flatMap_cons, List.flatMap_nil, List.append_nil, one_syll ha, one_syll hb]
  unfold apartS
  rw [e]
  exact put_same (zero_ord fun x hx => class_letter (.inl ((List.mem_append.1 hx).elim (letters_zero ha x) (letters_zero hb x))))
/-- what has no canonical decomposition is its own form -/
theorem scalar_none {c : Int} (hc : canonS c = []) : formS false [c] = [c] := by
  by_cases hs : splitS c = []
  · have hp : oneS false c = [c] := oneS_of_plain ⟨hs, by unfold stepS; rw [hc]; rfl⟩
    have e : apartS false [c] = [c] := by
      unfold apartS allS
      rw [List.flatMap_cons, hp]
      rfl
    unfold formS
    rw [e]
    unfold compG fromG
    rw [List.foldl_cons, List.foldl_nil]
    by_cases h0 : classS c = 0
    · rw [step_new h0 (fun S h => by cases h)]; rfl
    · rw [step_add h0 (fun S h => by cases h)]; rfl
  · have hin : 44032 ≤ c ∧ c ≤ 55203 := Classical.byContradiction fun h => hs (splitS_out h)
    obtain ⟨n, rfl⟩ : ∃ n : Nat, c = 44032 + (n : Int) := ⟨(c - 44032).toNat, by omega⟩
    have hn : n ≤ 11171 := by omega
    have e : apartS false [44032 + (n : Int)] = partsN n := by
      unfold apartS allS
      rw [List.flatMap_cons, one_syll hn, List.flatMap_nil, List.append_nil]
      exact put_same (zero_ord fun x hx => class_letter (.inl (letters_zero hn x hx)))
    unfold formS
    rw [e]
    unfold compG fromG
    rw [fold_syll _ hn]
    rfl
end Go.Proofs.YtidjjaginindoaaGreat

/-! Ref10a -/
namespace Go.Proofs.YtidjjaginindoaaGreat
open Go.RowKit

set_option maxHeartbeats 1000000 in
theorem refTwo10 (B : Nat) (a b : Int) (w : World) (h : TabsAt B w) (ha : I64n a) (hb : I64n b) : Calls Tryz.prog 87 #[.pointer (some ⟨B, 0, none⟩), .int .i64 a, .int .i64 b] w fun e w' => e = .returned (.tuple #[.int .i64 (twoS a b).1, .bool (twoS a b).2]) ∧ Below w.heap.size w w' := by
  have HJ := hid (fun w => refJoin7 a b w ha hb)
  have HP := hid (fun w h => refTPair B a b w h)
  have HT := hid h
  obtain ⟨R, hR⟩ : ∃ R, R = twoS a b := ⟨_, rfl⟩
  rw [← hR]
  unfold twoS at hR
  obtain ⟨J, hJ⟩ : ∃ J, J = joinS a b := ⟨_, rfl⟩
  rw [← hJ] at hR HJ
  obtain ⟨j, ok⟩ := J
  clear hJ h
  cases ok with
  | true =>
    have HR := hid (show R = (j, true) from hR)
    clear hR
    go_enter Tryz.func87, Tryz.ntmps87
    go_wp2_with (go_at_call 106; refine (HJ.out _).mono ?_; rintro e w1 ⟨rfl, rfl⟩)
    go_ret2
    exact ⟨by rw [HR.out]; rfl, Below.refl _ _⟩
  | false =>
    have HR := hid (show R = pairS a b from hR)
    rw [← HR.out] at HP
    clear hR
    go_enter Tryz.func87, Tryz.ntmps87
    go_wp2_with (first
      | (go_at_call 106; refine (HJ.out _).mono ?_; rintro e w1 ⟨rfl, rfl⟩)
      | (go_at_call 107; refine (HP.out _ HT.out).mono ?_; rintro e w2 ⟨rfl, hb2⟩))
    go_ret2
    exact ⟨rfl, hb2⟩
end Go.Proofs.YtidjjaginindoaaGreat

/-! Cmp10a -/
namespace Go.Proofs.YtidjjaginindoaaGreat
open Go.RowKit Go.Maps

/-- a pair of numbers as a key -/
def pv (a b : Int) : Value := .agg #[.int .i64 a, .int .i64 b]
/-- an answer: whether it was asked for, the composite, whether there is one -/
def av (k : Bool) (c : Int) (o : Bool) : Value := .agg #[.bool k, .int .i64 c, .bool o]
theorem pv_inj {a b c d : Int} (h : pv a b = pv c d) : a = c ∧ b = d := by
  unfold pv at h
  simp only [Value.agg.injEq, Array.mk.injEq, List.cons.injEq, Value.int.injEq, true_and, and_true] at h
  exact h
theorem pr_under : Tryz.prog.underlying 112 = some (.array 2 3) := by kernel_rfl
theorem pr_cells : Tryz.prog.cellsOf 112 = 2 := by kernel_rfl
theorem pr_int : Tryz.prog.cellsOf 3 = 1 := by kernel_rfl
theorem pr_keyType : Tryz.prog.keyType 112 = true := by kernel_rfl
theorem wf_i64k {c : Int} (h : inI c = true) : (Lit.int .i64 c).wf = true := by
  unfold inI at h
  rw [decide_eq_true_iff] at h
  simpa [Lit.wf, IntKind.min, IntKind.max, IntKind.signed, IntKind.bits] using h
theorem types_more10 : ∃ m, Tryz.prog.types.size = m + 1 := ⟨Tryz.prog.types.size - 1, by
  have : 0 < Tryz.prog.types.size := of_decide_eq_true (by kernel_rfl)
  omega⟩
theorem pr_key {a b : Int} (ha : inI a = true) (hb : inI b = true) : keyOf Tryz.prog 112 (pv a b) = some (.string (keyBytes [Lit.int .i64 a, Lit.int .i64 b])) := by
  obtain ⟨m, hm⟩ := types_more10
  unfold keyOf pv
  simp only [pr_under]
  rw [if_pos (by simp [pr_keyType, Value.formed, pr_cells]), hm]
  unfold Program.keyLits
  simp only [pr_under, Value.cells]
  rw [if_pos (by rw [pr_cells]; rfl)]
  have key := mapM_some_of_forall (f := fun i => Tryz.prog.keyLits (m + 1) 3 (((#[Value.int .i64 a, Value.int .i64 b]).toList.drop (i * Tryz.prog.cellsOf 3)).take (Tryz.prog.cellsOf 3))) (g := fun i => [Lit.int .i64 (if i = 0 then a else b)]) (List.range 2) (fun i hi => by
    have hi := List.mem_range.1 hi
    have e : ((#[Value.int .i64 a, Value.int .i64 b]).toList.drop (i * Tryz.prog.cellsOf 3)).take (Tryz.prog.cellsOf 3) = [.int .i64 (if i = 0 then a else b)] := by
      rw [pr_int, Nat.mul_one]
      rcases (show i = 0 ∨ i = 1 by omega) with rfl | rfl <;> rfl
    rw [e]
    unfold Program.keyLits
    simp only [Tryz.underlying3]
    rw [if_pos ⟨trivial, by split; exact wf_i64k ha; exact wf_i64k hb⟩])
  rw [key]
  rfl
theorem Tryz.laidOut10 : laidOutB Tryz.prog = true := by kernel_rfl
theorem pr_row : (112 : TypeId) < Tryz.prog.types.size := of_decide_eq_true (by kernel_rfl)
theorem pr_wide : (match Tryz.prog.underlying 112 with | some (.array _ _) | some (.struct _) => true | _ => false) = true := by kernel_rfl
set_option maxRecDepth 100000 in
theorem pr_law : Keyed Tryz.prog 112 := Keyed.of_law (deep_law_laid Tryz.laidOut10 (m := 2) (by omega) pr_row (by kernel_rfl) pr_wide)

/-- an entry tells what two numbers compose, if it was asked for -/
def AnsE (e : MapEntry) : Prop := ∃ a b k c o, e.key = pv a b ∧ inI a = true ∧ inI b = true ∧ e.val = av k c o ∧ (k = true → (c, o) = twoS a b)
/-- the map in block M: each entry tells what is so; all pairs of L are among the keys -/
def MapC (L : List Rg) (M : Nat) (w : World) : Prop := ∃ es clock, w.heap[M]? = some (.map es clock) ∧ (∀ e ∈ es.toList, AnsE e) ∧ ∀ r ∈ L, ∃ e ∈ es.toList, e.key = pv r.t r.v
theorem MapC.lt {L : List Rg} {M : Nat} {w : World} (h : MapC L M w) : M < w.heap.size := by
  obtain ⟨es, clock, hm, -⟩ := h
  exact (Array.getElem?_eq_some_iff.1 hm).1
theorem MapC.below {L : List Rg} {M : Nat} {w w' : World} (h : MapC L M w) (hb : Below w.heap.size w w') : MapC L M w' := by
  have hl := h.lt
  obtain ⟨es, clock, hm, h1, h2⟩ := h
  exact ⟨es, clock, (hb.block M hl).trans hm, h1, h2⟩
theorem MapC.same {L : List Rg} {M : Nat} {w w' : World} (h : MapC L M w) (hb : w'.heap[M]? = w.heap[M]?) : MapC L M w' := by
  obtain ⟨es, clock, hm, h1, h2⟩ := h
  exact ⟨es, clock, hb.trans hm, h1, h2⟩
theorem MapC.nil {M clock : Nat} {w : World} (h : w.heap[M]? = some (.map #[] clock)) : MapC [] M w := ⟨_, _, h, fun e he => by simp at he, fun r hr => by cases hr⟩
theorem MapC.nobox {L : List Rg} {M B : Nat} {w : World} {t : TypeId} {cs : List Value} (h : MapC L M w) (hb : Box t cs B w) : B ≠ M := fun e => by
  obtain ⟨es, clock, hm, -⟩ := h
  subst e
  unfold Box at hb
  rw [hm] at hb
  cases hb
theorem AnsE.key {e : MapEntry} (h : AnsE e) : ∃ l, keyOf Tryz.prog 112 e.key = some l := by
  obtain ⟨a, b, k, c, o, hk, ha, hb, -⟩ := h
  rw [hk]
  exact ⟨_, pr_key ha hb⟩
theorem zero_ans (w : World) : (zeroValue 111).run Tryz.prog w = .ok (av false 0 false) w := by kernel_rfl

/-- what an answer that was found says -/
def AnsOk (a b : Int) (k : Bool) (c : Int) (o : Bool) : Prop := k = true → (c, o) = twoS a b
theorem store_pair {L : List Rg} {M : Nat} {W : World} (h : MapC L M W) {a b : Int} (ha : inI a = true) (hb : inI b = true) {k o : Bool} {c : Int} (hc : AnsOk a b k c o) :
    ∃ W', (Instr.mapUpdate 90 (.map (some M)) (pv a b) (av k c o)).run Tryz.prog W = .ok () W' ∧ W.grownBy W' (some M) ∧ ∀ f, MapC (L ++ [⟨f, a, b⟩]) M W' := by
  obtain ⟨es, clock, hM, h1, h2⟩ := h
  have hkey := pr_key ha hb
  have ht := Tryz.underlying90
  have grown : ∀ o, W.grownBy (ChangeMaps.setBlock W M o) (some M) := fun o => ⟨rfl, rfl, rfl, by simp [ChangeMaps.setBlock], fun i _ hi => ChangeMaps.heap_setBlock_other hM _ (fun e => hi (by rw [e]))⟩
  rcases pr_law.find W hkey es.toList (fun x hx => (h1 x hx).key) with ⟨hf, hn⟩ | ⟨j, e0, hf, he, hk⟩
  · refine ⟨_, by simp [Instr.mapUpdate, run_underlying ht, MapKept.run_getObj_map hM, pr_law.check W false hkey, hf, MapKept.run_setObj_map _ hM, Result.andThen]; rfl, grown _, fun f => ⟨_, _, ChangeMaps.heap_setBlock_same hM _, fun e he => ?_, fun r hr => ?_⟩⟩
    · simp only [Array.toList_push, List.mem_append, List.mem_singleton] at he
      rcases he with he | rfl
      · exact h1 e he
      · exact ⟨a, b, k, c, o, rfl, ha, hb, rfl, hc⟩
    · simp only [Array.toList_push, List.mem_append, List.mem_singleton]
      rcases List.mem_append.1 hr with hr | hr
      · obtain ⟨e, hem, hek⟩ := h2 r hr
        exact ⟨e, .inl hem, hek⟩
      · rw [List.mem_singleton] at hr
        subst hr
        exact ⟨_, .inr rfl, rfl⟩
  · have hj : es[j]? = some e0 := by simpa using he
    have hst := pr_law.stays W hkey
    refine ⟨_, by simp [Instr.mapUpdate, run_underlying ht, MapKept.run_getObj_map hM, pr_law.check W false hkey, hf, hj, hk, hst, MapKept.run_setObj_map _ hM, Result.andThen]; rfl, grown _, fun f => ⟨_, _, ChangeMaps.heap_setBlock_same hM _, ?_, ?_⟩⟩
    · intro e hem
      rw [Array.toList_modify, ChangeMaps.modify_eq_set _ _ _ _ he] at hem
      rcases List.mem_or_eq_of_mem_set hem with hem | rfl
      · exact h1 e hem
      · exact ⟨a, b, k, c, o, rfl, ha, hb, rfl, hc⟩
    · intro r hr
      rw [Array.toList_modify, ChangeMaps.modify_eq_set _ _ _ _ he]
      have hnew : ∀ z : MapEntry, z.key = pv a b → ∀ x ∈ es.toList, x.key = pv r.t r.v → ∃ e ∈ es.toList.set j z, e.key = pv r.t r.v := fun z hz x hx hxk => by
        obtain ⟨i, hi, hix⟩ := List.getElem_of_mem hx
        by_cases hij : j = i
        · subst hij
          refine ⟨z, List.mem_of_getElem? (i := j) (List.getElem?_set_self hi), ?_⟩
          have : x = e0 := by rw [← hix]; rw [List.getElem?_eq_getElem hi] at he; exact Option.some.inj he
          rw [← hxk, this, hk, hz]
        · exact ⟨x, List.mem_of_getElem? (i := i) (by rw [List.getElem?_set_ne hij, List.getElem?_eq_getElem hi, hix]), hxk⟩
      rcases List.mem_append.1 hr with hr | hr
      · obtain ⟨e, hem, hek⟩ := h2 r hr
        exact hnew _ rfl e hem hek
      · rw [List.mem_singleton] at hr
        subst hr
        exact hnew _ rfl e0 (List.mem_of_getElem? he) hk

/-- what is not in the tables is made by letters alone -/
theorem two_off {a b : Int} (h : ∀ r ∈ tabCanon, ¬ (r.t = a ∧ r.v = b)) : twoS a b = joinS a b := by
  unfold twoS
  cases hj : (joinS a b).2 with
  | true => rw [if_pos rfl, ← hj]
  | false =>
    rw [if_neg (by simp)]
    have hp : ∀ l : List Rg, (∀ r ∈ l, (r.t == a && r.v == b) = false) → fndS (fun r => r.t == a && r.v == b) l = (noRg, false) := fun l => by
      induction l with
      | nil => intro _; rfl
      | cons r l ih =>
        intro hl
        unfold fndS
        rw [hl r (by simp)]
        exact ih fun x hx => hl x (by simp [hx])
    have hz : joinS a b = (0, false) := by
      unfold joinS at hj ⊢
      split
      · rename_i h1; rw [if_pos h1] at hj; cases hj
      · split
        · rename_i h1 h2; rw [if_neg h1, if_pos h2] at hj; cases hj
        · rfl
    unfold pairS
    rw [hp tabPair (fun r hr => by
      have hm : r ∈ tabCanon := (List.mem_filter.1 hr).1
      have := h r hm
      simp only [Bool.and_eq_false_imp, beq_iff_eq, beq_eq_false_iff_ne]
      exact fun e1 e2 => this ⟨e1, e2⟩), hz]
    rfl
end Go.Proofs.YtidjjaginindoaaGreat
