/- Several texts in one: RefSc, Ref6a, Ref13a, Ref13b, Ref13c. -/
import Derived.Test.YtildhebaikeknaaPk1
import Derived.Test.YtildhebaikeknaaPk2
import Derived.Test.YtildhebaikeknaaPk16
import Derived.BigQuiet
import Derived.Test.YtildhebaikeknaaPk18
/-! RefSc -/
namespace Go.Proofs.Ytildhebaikeknaa
open Go.RowKit

end Go.Proofs.Ytildhebaikeknaa

/-! Ref6a -/
namespace Go.Proofs.Ytildhebaikeknaa
open Go.RowKit

/-- no table gives a number that is no scalar a value, or any number one below 0 -/
def offT (l : List Rg) : Bool := l.all fun r => decide (0 ≤ r.f ∧ r.t ≤ 1114111 ∧ (r.t < 55296 ∨ 57343 < r.f) ∧ 0 < r.v)
theorem off_all : offT tabClasses = true ∧ offT tabAssigned = true ∧ offT tabNothing = true ∧ offT tabSpaces = true ∧ offT tabProhibited = true := by decide +kernel
theorem off_look {l : List Rg} (h : offT l = true) (c : Int) : lookS l c = 0 ∨ (scalarB c = true ∧ 0 < lookS l c) := by
  by_cases h0 : lookS l c = 0
  · exact .inl h0
  · obtain ⟨r, hr, h1, h2, h3⟩ := lookS_some h0
    have := List.all_eq_true.1 h r hr
    simp only [decide_eq_true_eq] at this
    exact .inr ⟨scalar_t ⟨by omega, by omega, by omega⟩, by rw [h3]; exact this.2.2.2⟩
theorem class_look (c : Int) : lookS tabClasses c = classS c := by
  rcases off_look off_all.1 c with h | h
  · unfold classS
    rw [h]
    split <;> rfl
  · exact classS_t h.1
theorem has_look {l : List Rg} (h : offT l = true) (c : Int) : (scalarB c && decide (0 < lookS l c)) = hasS l c := by
  unfold hasS
  rcases off_look h c with h | h
  · rw [h]; rfl
  · rw [h.1, decide_eq_true h.2]
    have : (lookS l c != 0) = true := by simp only [bne_iff_ne]; omega
    rw [this]

end Go.Proofs.Ytildhebaikeknaa

/-! Ref13a -/
namespace Go.Proofs.Ytildhebaikeknaa
open Go.RowKit

end Go.Proofs.Ytildhebaikeknaa

/-! Ref13b -/
namespace Go.Proofs.Ytildhebaikeknaa
open Go.RowKit

theorem cont_app : ∀ (c : Int) (r s : List Int), cont c (r ++ s) = match cont c r with | none => none | some d => cont d s
  | c, [], s => rfl
  | c, b :: r, s => by
    simp only [List.cons_append, cont]
    split
    · rfl
    · exact cont_app _ r s
/-- one byte more -/
theorem cont_next {c d : Int} {r : List Int} {j : Nat} (hj : j < r.length) (h : cont c (r.take j) = some d) : cont c (r.take (j + 1)) = if r.getD j 0 < 128 ∨ 192 ≤ r.getD j 0 then none else some (64 * d + r.getD j 0 - 128) := by
  have e : r.getD j 0 = r[j] := by rw [List.getD_eq_getElem?_getD, List.getElem?_eq_getElem hj]; rfl
  rw [List.take_succ_eq_append_getElem hj, cont_app, h, e]
  simp only [cont]
theorem cont_stop {c : Int} {r : List Int} {j m : Nat} (hm : j ≤ m) (h : cont c (r.take j) = none) : cont c (r.take m) = none := by
  have e : r.take m = r.take j ++ (r.take m).drop j := by
    rw [show r.take j = (r.take m).take j by rw [List.take_take, Nat.min_eq_left hm]]
    exact (List.take_append_drop j _).symm
  rw [e, cont_app, h]
theorem one_few {c0 : Int} {r : List Int} (h1 : ¬ c0 < 128) (h : (lead c0).1 = 0 ∨ r.length + 1 < (lead c0).1) : u8one (c0 :: r) = (0, 0) := by rw [u8one, if_neg h1, if_pos h]
theorem one_none {c0 : Int} {r : List Int} (h1 : ¬ c0 < 128) (h : ¬ ((lead c0).1 = 0 ∨ r.length + 1 < (lead c0).1)) (hc : cont (lead c0).2 (r.take ((lead c0).1 - 1)) = none) : u8one (c0 :: r) = (0, 0) := by rw [u8one, if_neg h1, if_neg h, hc]
theorem one_some {c0 c : Int} {r : List Int} (h1 : ¬ c0 < 128) (h : ¬ ((lead c0).1 = 0 ∨ r.length + 1 < (lead c0).1)) (hc : cont (lead c0).2 (r.take ((lead c0).1 - 1)) = some c) : u8one (c0 :: r) = if scalarB c = true ∧ (u8enc c).length = (lead c0).1 then (c, (lead c0).1) else (0, 0) := by rw [u8one, if_neg h1, if_neg h, hc]

end Go.Proofs.Ytildhebaikeknaa

/-! Ref13c -/
namespace Go.Proofs.Ytildhebaikeknaa
open Go.RowKit

theorem put_part {s x : List Int} {j : Nat} (hj : j < s.length) (h : putU (s.take j) = .inl x) :
    (scalarB (s.getD j 0) = false → putU s = .inr j) ∧ (scalarB (s.getD j 0) = true → putU (s.take (j + 1)) = .inl (x ++ u8enc (s.getD j 0))) := by
  have e : s.getD j 0 = s[j] := by rw [List.getD_eq_getElem?_getD, List.getElem?_eq_getElem hj]; rfl
  rw [e]
  constructor
  · intro hs
    have h2 : s = s.take j ++ (s[j] :: s.drop (j + 1)) := by rw [List.getElem_cons_drop, List.take_append_drop]
    have hp := put_app (s.take j) (s[j] :: s.drop (j + 1))
    rw [← h2, h] at hp
    rw [hp]
    simp only [putU, hs, Bool.false_eq_true, if_false, List.length_take]
    congr 1
    omega
  · intro hs
    rw [List.take_succ_eq_append_getElem hj, put_app, h]
    simp [putU, hs]

theorem got_part {b t : List Int} {j : Nat} (hj : j < b.length) (h : getU b = goOn t j (getU (b.drop j))) (c : Int) (k : Nat) (h1 : u8one (b.drop j) = (c, k)) :
    (k = 0 → getU b = .inr j) ∧ (k ≠ 0 → getU b = goOn (t ++ [c]) (j + k) (getU (b.drop (j + k)))) := by
  have hne : b.drop j ≠ [] := fun e => by
    have := congrArg List.length e
    rw [List.length_drop, List.length_nil] at this
    omega
  rw [getU_step hne, h1] at h
  simp only at h
  constructor
  · intro hk
    rw [if_pos hk] at h
    rw [h]
    rfl
  · intro hk
    rw [if_neg hk, List.drop_drop] at h
    rw [h]
    cases getU (b.drop (j + k)) with
    | inl u => simp [goOn]
    | inr x => simp [goOn]; omega
theorem got_end {b t : List Int} (h : getU b = goOn t b.length (getU (b.drop b.length))) : getU b = .inl t := by
  rw [h, List.drop_length, getU_nil]
  simp [goOn]

end Go.Proofs.Ytildhebaikeknaa
