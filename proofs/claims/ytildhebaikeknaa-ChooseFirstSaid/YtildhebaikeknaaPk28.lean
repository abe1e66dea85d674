/- Several texts in one: Ref6b, Ref6d. -/
import Derived.Test.YtildhebaikeknaaPk27
import Derived.Test.YtildhebaikeknaaPk14
import Derived.Test.YtildhebaikeknaaPk1
/-! Ref6b -/
namespace Go.Proofs.Ytildhebaikeknaa
open Go.RowKit

/-- no entry speaks of what is no scalar; what they tell is short -/
def offM (l : List Mp) : Bool := l.all fun m => scalarB m.f && decide (m.t.length ≤ 1000)
set_option maxRecDepth 100000 in
theorem offM_all : offM tabCompat = true ∧ offM tabFolds = true := by decide +kernel
theorem offM_map {l : List Mp} (h : offM l = true) (c : Int) : (fndM c l).1.t = mapS l c := by
  cases hb : scalarB c with
  | true => exact mapS_t hb
  | false =>
    rw [← mapS_f (l := l) hb]
    have key : ∀ l : List Mp, offM l = true → (fndM c l).1.t = [] := fun l => by
      induction l with
      | nil => intro _; rfl
      | cons m l ih =>
        intro h
        simp only [offM, List.all_cons, Bool.and_eq_true] at h
        rw [fndM]
        split
        · rename_i he
          have := eq_of_beq he
          rw [this, hb] at h
          simp at h
        · exact ih h.2
    exact key l h
theorem offM_len {l : List Mp} (h : offM l = true) : ∀ m ∈ l, m.t.length ≤ 1000 := fun m hm => by
  have := List.all_eq_true.1 h m hm
  simp only [Bool.and_eq_true, decide_eq_true_eq] at this
  exact this.2
end Go.Proofs.Ytildhebaikeknaa

/-! Ref6d -/
namespace Go.Proofs.Ytildhebaikeknaa
open Go.RowKit

def refP (a b : Int) (r : Rg) : Bool := !(r.v == 0) && (!(r.t != a) && (!(r.v != b) && (!(classS a != 0) && (!(classS r.f != 0) && !exclL.any (· == r.f)))))
theorem idx_any (c : Int) : ∀ (l : List Int) (o : Int), 0 ≤ o → decide (0 ≤ idxL c l o) = l.any (· == c)
  | [], o, _ => by simp [idxL]
  | x :: l, o, h => by
    rw [idxL, List.any_cons]
    cases hx : (x == c) with
    | true => simp [h]
    | false => simpa using idx_any c l (o + 1) (by omega)
theorem fndS_filter {p q : Rg → Bool} : ∀ l : List Rg, fndS p (l.filter q) = fndS (fun r => q r && p r) l
  | [] => rfl
  | r :: l => by
    rw [List.filter_cons, fndS]
    cases hq : q r with
    | true =>
      simp only [if_true, Bool.true_and]
      rw [fndS, fndS_filter l]
    | false =>
      simp only [Bool.false_eq_true, if_false, Bool.false_and]
      exact fndS_filter l
theorem fndS_ext {p q : Rg → Bool} (h : ∀ r, p r = q r) : ∀ l : List Rg, fndS p l = fndS q l
  | [] => rfl
  | r :: l => by rw [fndS, fndS, h r, fndS_ext h l]
theorem pair_same (a b : Int) : pairS a b = ((fndS (refP a b) tabCanon).1.f, (fndS (refP a b) tabCanon).2) := by
  have e : fndS (fun r => r.t == a && r.v == b) tabPair = fndS (refP a b) tabCanon := by
    unfold tabPair
    rw [fndS_filter]
    refine fndS_ext (fun r => ?_) _
    unfold refP delS inL
    rw [idx_any _ _ _ (Int.le_refl 0), class_look, class_look]
    cases h1 : (r.t == a) with
    | false =>
      have : (r.t != a) = true := by simp only [bne, h1]; rfl
      rw [this]
      simp
    | true =>
      have h2 := eq_of_beq h1
      have : (r.t != a) = false := by simp only [bne, h1]; rfl
      rw [this, h2]
      cases (r.v == 0) <;> cases exclL.any (· == r.f) <;> cases hb : (r.v == b) <;> simp [bne, hb, Bool.and_comm]
  unfold pairS
  rw [e]
/-- whether one of the first so many is x -/
def outB (x : Int) (j : Nat) : Bool := (exclL.take j).any (· == x)
theorem outB_next {x : Int} {j : Nat} (h : j < 6) : outB x (j + 1) = (outB x j || (exclL.getD j 0 == x)) := by
  unfold outB
  rw [List.take_succ_eq_append_getElem (show j < exclL.length from h), List.any_append, List.any_cons, List.any_nil, Bool.or_false]
  congr 1
  rw [List.getD_eq_getElem?_getD, List.getElem?_eq_getElem (show j < exclL.length from h)]
  rfl

end Go.Proofs.Ytildhebaikeknaa
