/- Several texts in one: PrepEasy. -/
import Derived.Test.YtidjjaginindoaaGreatPk22
import Derived.Test.YtidjjaginindoaaGreatPk20
/-! PrepEasy -/
namespace Go.Proofs.YtidjjaginindoaaGreat
open Go.RowKit

def easyL : List Int := 32 :: ((List.range 10).map (fun n : Nat => 48 + (n : Int)) ++ (List.range 26).map (fun n : Nat => 97 + (n : Int)))
set_option maxRecDepth 1000000 in
theorem easy_all : (easyL.all fun c => (quickB true c && okP c) && (classS c == 0 && ((mapR 1 c == [c]) && (mapR 3 c == [c])))) = true := by decide +kernel
def easyB (c : Int) : Bool := c == 32 || (decide (48 ≤ c ∧ c ≤ 57) || decide (97 ≤ c ∧ c ≤ 122))
theorem easy_mem {c : Int} (h : easyB c = true) : c ∈ easyL := by
  unfold easyB at h
  simp only [Bool.or_eq_true, beq_iff_eq, decide_eq_true_eq] at h
  unfold easyL
  rcases h with rfl | h | h
  · simp
  · refine List.mem_cons_of_mem _ (List.mem_append_left _ (List.mem_map.2 ⟨(c - 48).toNat, List.mem_range.2 (by omega), by omega⟩))
  · refine List.mem_cons_of_mem _ (List.mem_append_right _ (List.mem_map.2 ⟨(c - 97).toNat, List.mem_range.2 (by omega), by omega⟩))
theorem easy_of {c : Int} (h : easyB c = true) : quickB true c = true ∧ okP c = true ∧ classS c = 0 ∧ mapR 1 c = [c] ∧ mapR 3 c = [c] := by
  have := List.all_eq_true.1 easy_all c (easy_mem h)
  simp only [Bool.and_eq_true, beq_iff_eq] at this
  obtain ⟨⟨a, b⟩, d, e, f⟩ := this
  exact ⟨a, b, d, e, f⟩
theorem easy_form {s : List Int} (h : s.all easyB = true) : formS true s = s :=
  quick_form (List.all_eq_true.2 fun c hc => (easy_of (List.all_eq_true.1 h c hc)).1)
theorem easy_alw {s : List Int} (h : s.all easyB = true) : alwP s = true := List.all_eq_true.2 fun c hc => (easy_of (List.all_eq_true.1 h c hc)).2.1
theorem easy_map {r : Int} (hr : r = 1 ∨ r = 3) {s : List Int} (h : s.all easyB = true) : mapP r s = s := by
  induction s with
  | nil => rfl
  | cons c s ih =>
    rw [List.all_cons, Bool.and_eq_true] at h
    rw [mapP_cons, ih h.2]
    obtain ⟨-, -, -, h1, h3⟩ := easy_of h.1
    rcases hr with rfl | rfl
    · rw [h1]; rfl
    · rw [h3]; rfl
/-- words where each number has the class 0 -/
def wordsE : List Int → List Int → List (List Int)
  | cur, [] => if cur = [] then [] else [cur]
  | cur, c :: r => if c = 32 then (if cur = [] then wordsE [] r else cur :: wordsE [] r) else wordsE (cur ++ [c]) r
theorem words_easy : ∀ (s cur : List Int), s.all easyB = true → wordsA cur s = wordsE cur s
  | [], cur, _ => rfl
  | c :: r, cur, h => by
    rw [List.all_cons, Bool.and_eq_true] at h
    have hsp : spB c r = (c == 32) := by
      unfold spB
      cases r with
      | nil => simp
      | cons d r =>
        have hd := (easy_of (List.all_eq_true.1 h.2 d (List.mem_cons_self ..))).2.2.1
        simp [hd]
    rw [wordsA, wordsE, hsp, words_easy r [] h.2, words_easy r (cur ++ [c]) h.2]
    by_cases hc : c = 32
    · simp [hc]
    · simp [hc]
theorem wordsE_sp (cur r : List Int) : wordsE cur (32 :: 32 :: r) = wordsE cur (32 :: r) := by
  by_cases h : cur = []
  · subst h; simp [wordsE]
  · simp [wordsE, h]
theorem wordsE_sps (cur r : List Int) : ∀ k, wordsE cur (32 :: (List.replicate k 32 ++ r)) = wordsE cur (32 :: r)
  | 0 => rfl
  | k + 1 => by rw [List.replicate_succ, List.cons_append, wordsE_sp, wordsE_sps cur r k]
theorem wordsE_head (r : List Int) : ∀ k, wordsE [] (List.replicate k 32 ++ r) = wordsE [] r
  | 0 => rfl
  | k + 1 => by
    rw [List.replicate_succ, List.cons_append]
    have e : ∀ t, wordsE [] (32 :: t) = wordsE [] t := fun t => by simp [wordsE]
    rw [e, wordsE_head r k]
theorem wordsE_tail (cur : List Int) : ∀ k, wordsE cur (List.replicate k 32) = wordsE cur []
  | 0 => rfl
  | k + 1 => by
    have := wordsE_head [] k
    rw [List.append_nil] at this
    rw [List.replicate_succ]
    by_cases h : cur = []
    · subst h
      simp only [wordsE, if_true]
      rw [this]
      try rfl
    · simp only [wordsE, if_true, h, if_false, this]
      try rfl
/-- a letter, and how many spaces stand ahead of it: none; one and so many more -/
def pieceA (x : Int × Option Nat) : List Int := (match x.2 with | none => [] | some _ => [32]) ++ [x.1]
def pieceB (x : Int × Option Nat) : List Int := (match x.2 with | none => [] | some k => 32 :: List.replicate k 32) ++ [x.1]
theorem words_pieces : ∀ (l : List (Int × Option Nat)) (cur : List Int) (e : Nat), (∀ x ∈ l, x.1 ≠ 32) → wordsE cur (l.flatMap pieceB ++ List.replicate e 32) = wordsE cur (l.flatMap pieceA)
  | [], cur, e, _ => by simpa using wordsE_tail cur e
  | (c, g) :: l, cur, e, h => by
    have hc : c ≠ 32 := h (c, g) (List.mem_cons_self ..)
    have ih := fun cur => words_pieces l cur e (fun x hx => h x (List.mem_cons_of_mem _ hx))
    have step : ∀ (cur t : List Int), wordsE cur (c :: t) = wordsE (cur ++ [c]) t := fun cur t => by simp [wordsE, hc]
    rw [List.flatMap_cons, List.flatMap_cons]
    cases g with
    | none =>
      simp only [pieceA, pieceB, List.nil_append, List.cons_append]
      rw [step, step, ih]
    | some k =>
      simp only [pieceA, pieceB, List.cons_append, List.nil_append, List.append_assoc]
      rw [wordsE_sps]
      by_cases hcur : cur = []
      · subst hcur
        simp only [wordsE, if_true]
        rw [if_neg hc, if_neg hc, ih]
      · simp only [wordsE, if_true, hcur, if_false, if_neg hc]
        rw [ih]
/-- all that is no space, whatever the words -/
theorem wordsE_flat : ∀ (s cur : List Int), (wordsE cur s).flatten = cur ++ s.filter (fun c => c != 32)
  | [], cur => by
    by_cases h : cur = []
    · subst h; rfl
    · simp [wordsE, h]
  | c :: r, cur => by
    by_cases hc : c = 32
    · subst hc
      by_cases h : cur = []
      · subst h
        simp [wordsE, wordsE_flat r []]
      · simp [wordsE, h, wordsE_flat r []]
    · simp [wordsE, hc, wordsE_flat r (cur ++ [c])]
theorem same_spaces {a b : List Int} (ha : a.all easyB = true) {B : List Int} (hb : mapP 1 b = B) (hB : B.all easyB = true) (hw : wordsE [] B = wordsE [] a) : sameP 1 a b = (true, true) := by
  have h1 : prepP 1 a = some (spacesP 1 a) := by
    unfold prepP
    rw [easy_map (.inl rfl) ha, easy_form ha, easy_alw ha]; rfl
  have h2 : prepP 1 b = some (spacesP 1 a) := by
    unfold prepP
    rw [hb, easy_form hB, easy_alw hB]
    have : spacesP 1 B = spacesP 1 a := by unfold spacesP; rw [words_easy a [] ha, words_easy B [] hB, hw]
    rw [this]; rfl
  unfold sameP
  rw [h1, h2]
  simp only [eqL_self]
theorem same_digits {c d : List Int} (hc : c.all easyB = true) (hd : d.all easyB = true) (hw : d.filter (fun x => x != 32) = c.filter (fun x => x != 32)) : sameP 3 c d = (true, true) := by
  have h1 : ∀ {s : List Int}, s.all easyB = true → prepP 3 s = some (s.filter (fun x => x != 32)) := fun {s} h => by
    unfold prepP
    rw [easy_map (.inr rfl) h, easy_form h, easy_alw h]
    unfold spacesP
    rw [if_pos rfl, words_easy s [] h, wordsE_flat]
    rfl
  unfold sameP
  rw [h1 hc, h1 hd, hw]
  simp only [eqL_self]
end Go.Proofs.YtidjjaginindoaaGreat
