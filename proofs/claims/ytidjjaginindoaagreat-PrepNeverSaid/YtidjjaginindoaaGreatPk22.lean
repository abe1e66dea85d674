/- Several texts in one: PrepSpec. -/
import Derived.Test.YtidjjaginindoaaGreatPk21
import Derived.Test.YtidjjaginindoaaGreatPk2
/-! PrepSpec -/
namespace Go.Proofs.YtidjjaginindoaaGreat
open Go.RowKit

/-- what a number is mapped to -/
def mapR (rule c : Int) : List Int := if hasS tabNothing c = true then [] else if hasS tabSpaces c = true then [32] else if rule = 1 ∨ rule = 2 then foldS c else [c]
def mapP (rule : Int) (s : List Int) : List Int := s.flatMap (mapR rule)
def okP (c : Int) : Bool := hasS tabAssigned c && !hasS tabProhibited c
def alwP (s : List Int) : Bool := s.all okP
/-- a space, ahead of the others -/
def spB (c : Int) (r : List Int) : Bool := c == 32 && (match r with | [] => true | d :: _ => classS d == 0)
/-- what stands between spaces, behind what stands there of the first one -/
def wordsA : List Int → List Int → List (List Int)
  | cur, [] => if cur = [] then [] else [cur]
  | cur, c :: r => if spB c r = true then (if cur = [] then wordsA [] r else cur :: wordsA [] r) else wordsA (cur ++ [c]) r
def joinP : List (List Int) → List Int
  | [] => []
  | [w] => w
  | w :: x :: ws => w ++ 32 :: 32 :: joinP (x :: ws)
def spacesP (rule : Int) (s : List Int) : List Int := if rule = 3 then (wordsA [] s).flatten else if wordsA [] s = [] then [32, 32] else 32 :: (joinP (wordsA [] s) ++ [32])
def ruleP (rule : Int) : Bool := decide (rule = 1 ∨ rule = 2 ∨ rule = 3)
def prepP (rule : Int) (s : List Int) : Option (List Int) := if ruleP rule && alwP (formS true (mapP rule s)) then some (spacesP rule (formS true (mapP rule s))) else none
def sameP (rule : Int) (a b : List Int) : Bool × Bool := match prepP rule a, prepP rule b with
  | some x, some y => (eqL x y, true)
  | _, _ => (false, false)
theorem mapP_app (rule : Int) (a b : List Int) : mapP rule (a ++ b) = mapP rule a ++ mapP rule b := List.flatMap_append ..
theorem mapP_cons (rule c : Int) (b : List Int) : mapP rule (c :: b) = mapR rule c ++ mapP rule b := rfl

/-! ### letters folded already; what is mapped to nothing -/
set_option maxRecDepth 1000000 in
theorem fold_plain : (tabFolds.all fun m => !hasS tabNothing m.f && (!hasS tabSpaces m.f && (mapS tabFolds m.f).all fun x => !hasS tabNothing x && !hasS tabSpaces x)) = true := by decide +kernel
theorem map_fold {rule : Int} (hr : rule = 1 ∨ rule = 2) (s : List Int) : mapP rule (foldAllS s) = mapP rule s := by
  have one : ∀ c, (foldS c).flatMap (mapR rule) = mapR rule c := fun c => by
    by_cases h : mapS tabFolds c = []
    · rw [fold_none h]; simp
    · obtain ⟨m, hm, he⟩ := map_key h
      have hf := List.all_eq_true.1 fold_plain m hm
      rw [he] at hf
      simp only [Bool.and_eq_true, Bool.not_eq_true', List.all_eq_true] at hf
      obtain ⟨h1, h2, h3⟩ := hf
      have e : mapR rule c = foldS c := by unfold mapR; rw [h1, h2, if_neg (by simp), if_neg (by simp), if_pos hr]
      rw [e]
      refine flat_id fun x hx => ?_
      have hx2 := hx
      rw [fold_some h] at hx2
      obtain ⟨h4, h5⟩ := h3 x hx2
      unfold mapR
      rw [h4, h5, if_neg (by simp), if_neg (by simp), if_pos hr]
      exact fold_end x hx
  unfold mapP foldAllS
  induction s with
  | nil => rfl
  | cons c s ih => rw [List.flatMap_cons, List.flatMap_append, one, List.flatMap_cons, ih]
theorem map_nothing {rule x : Int} (h : hasS tabNothing x = true) (a b : List Int) : mapP rule (a ++ x :: b) = mapP rule (a ++ b) := by
  rw [mapP_app, mapP_cons, mapP_app]
  have e : mapR rule x = [] := by unfold mapR; rw [if_pos h]
  rw [e]
  rfl
end Go.Proofs.YtidjjaginindoaaGreat
