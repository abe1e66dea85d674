/- Several texts in one: FoldSpec. -/
import Derived.Test.YtidjjaginindoaaGreatPk20
import Derived.Test.YtidjjaginindoaaGreatPk12
/-! FoldSpec -/
namespace Go.Proofs.YtidjjaginindoaaGreat
open Go.RowKit

def foldS (c : Int) : List Int := if (mapS tabFolds c).isEmpty then [c] else mapS tabFolds c
def foldAllS (s : List Int) : List Int := s.flatMap foldS
theorem fold_none {c : Int} (h : mapS tabFolds c = []) : foldS c = [c] := by
  unfold foldS
  rw [h]
  rfl
theorem fold_some {c : Int} (h : mapS tabFolds c ≠ []) : foldS c = mapS tabFolds c := by
  unfold foldS
  rw [if_neg (by simpa using h)]
set_option maxRecDepth 1000000 in
theorem fold_rows : (tabFolds.all fun m => (mapS tabFolds m.f).all fun x => (mapS tabFolds x).isEmpty) = true := by decide +kernel
set_option maxRecDepth 100000 in
theorem fold_len3 : (tabFolds.all fun m => decide (m.t.length ≤ 3)) = true := by decide +kernel
theorem fold_len (c : Int) : (foldS c).length ≤ 3 := by
  have key : ∀ l : List Mp, (l.all fun m => decide (m.t.length ≤ 3)) = true → (fndM c l).1.t.length ≤ 3 := fun l => by
    induction l with
    | nil => intro _; exact Nat.zero_le _
    | cons m l ih =>
      intro h
      simp only [List.all_cons, Bool.and_eq_true, decide_eq_true_eq] at h
      rw [fndM]
      split
      · exact h.1
      · exact ih h.2
  unfold foldS
  split
  · simp
  · unfold mapS
    split
    · exact key _ fold_len3
    · simp
theorem fold_end {c : Int} : ∀ x ∈ foldS c, foldS x = [x] := by
  intro x hx
  by_cases h : mapS tabFolds c = []
  · rw [fold_none h] at hx
    obtain rfl : x = c := by simpa using hx
    exact fold_none h
  · rw [fold_some h] at hx
    obtain ⟨m, hm, he⟩ := map_key h
    have := List.all_eq_true.1 fold_rows m hm
    rw [he] at this
    have h2 := List.all_eq_true.1 this x hx
    exact fold_none (by simpa using h2)
theorem foldAll_twice (s : List Int) : foldAllS (foldAllS s) = foldAllS s := by
  show (s.flatMap foldS).flatMap foldS = s.flatMap foldS
  refine flat_id fun x hx => ?_
  rw [List.mem_flatMap] at hx
  obtain ⟨c, _, hx⟩ := hx
  exact fold_end x hx
theorem foldAll_app (a b : List Int) : foldAllS (a ++ b) = foldAllS a ++ foldAllS b := List.flatMap_append ..
theorem foldAll_len (s : List Int) : (foldAllS s).length ≤ s.length * 3 := by
  induction s with
  | nil => simp [foldAllS]
  | cons c s ih =>
    have h1 := fold_len c
    have h2 : foldAllS (c :: s) = foldS c ++ foldAllS s := rfl
    rw [h2, List.length_append, List.length_cons]
    omega
set_option maxRecDepth 1000000 in
theorem fold_ascii : ∀ n : Nat, n < 128 → foldS (n : Int) = [if 65 ≤ n ∧ n ≤ 90 then (n : Int) + 32 else (n : Int)] := by decide +kernel
theorem map_inI {l : List Mp} (hl : (l.all fun m => m.t.all inI) = true) (c : Int) : (mapS l c).all inI = true := by
  have key : ∀ l : List Mp, (l.all fun m => m.t.all inI) = true → (fndM c l).1.t.all inI = true := fun l => by
    induction l with
    | nil => intro _; rfl
    | cons m l ih =>
      intro h
      rw [List.all_cons, Bool.and_eq_true] at h
      rw [fndM]
      split
      · exact h.1
      · exact ih h.2
  unfold mapS
  split
  · exact key l hl
  · rfl
set_option maxRecDepth 100000 in
theorem folds_in : (tabFolds.all fun m => m.t.all inI) = true := by decide +kernel
theorem fold_inI {c : Int} (h : inI c = true) : (foldS c).all inI = true := by
  unfold foldS
  split
  · rw [List.all_cons, h]; rfl
  · exact map_inI folds_in c
/-- a large letter with a mark -/
def markOk (r : Rg) : Bool :=
  match foldS r.t with
  | [x] => x == r.t || (!((pairS r.t r.v).2 && (pairS r.t r.v).1 == r.f) || (!(pairS x r.v).2 || formS false (foldS r.f) == formS false [x, r.v]))
  | _ => true
set_option maxRecDepth 1000000 in
theorem mark_rows : tabCanon.all markOk = true := by decide +kernel
theorem fold_mark {a b x : Int} (h : (pairS a b).2 = true) (hx : foldS a = [x]) (hne : x ≠ a) (hd : (pairS x b).2 = true) : formS false (foldS (pairS a b).1) = formS false [x, b] := by
  obtain ⟨hc, -⟩ := pair_facts h
  obtain ⟨r, hr, hf, ht, hv, -⟩ := canon_row11 hc
  have := List.all_eq_true.1 mark_rows r hr
  unfold markOk at this
  rw [ht, hv, hf, hx] at this
  simp only [Bool.or_eq_true, beq_iff_eq, Bool.not_eq_true', Bool.and_eq_false_iff, h, hd, beq_eq_false_iff_ne] at this
  rcases this with h1 | h1 | h1 | h1
  · exact absurd h1 hne
  · rcases h1 with h1 | h1
    · cases h1
    · exact absurd rfl h1
  · cases h1
  · exact h1
theorem pair_form {x b : Int} (h : (pairS x b).2 = true) : formS false [(pairS x b).1] = [(pairS x b).1] := by
  obtain ⟨hc, -⟩ := pair_facts h
  have := scalar_two hc
  rw [h] at this
  simpa using this
end Go.Proofs.YtidjjaginindoaaGreat
