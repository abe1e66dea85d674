/- Several texts in one: DecSpec8, DecOk, Parts8, UcdFacts, UcdWakes, LawPairs6, OrdSpec, OrdOk. -/
import Derived.Test.YtimbchkoomjhkaaPk15
import Derived.Test.YtimbchkoomjhkaaPk3
import Derived.Test.YtimbchkoomjhkaaPk12
import Derived.Test.YtimbchkoomjhkaaPk1
/-! DecSpec8 -/
namespace Go.Proofs.Ytimbchkoomjhkaa
open Go.RowKit

set_option maxRecDepth 1000000 in
theorem off_letters : (tabCanon.all fun r => decide (r.f < 4352 ∨ 4546 < r.f)) = true ∧ (tabCompat.all fun m => decide (m.f < 4352 ∨ 4546 < m.f)) = true := by decide +kernel
/-- nothing comes apart of it -/
def PlainS (k : Bool) (x : Int) : Prop := splitS x = [] ∧ stepS k x = []
theorem letter_plain (k : Bool) {x : Int} (h0 : 4352 ≤ x) (h1 : x ≤ 4546) : PlainS k x := by
  refine ⟨splitS_out (by omega), ?_⟩
  have hc : canonS x = [] := Classical.byContradiction fun h => by
    obtain ⟨r, hr, e⟩ := canon_key h
    have := List.all_eq_true.1 off_letters.1 r hr
    simp only [decide_eq_true_eq] at this
    omega
  have hm : mapS tabCompat x = [] := Classical.byContradiction fun h => by
    obtain ⟨m, hm, e⟩ := map_key h
    have := List.all_eq_true.1 off_letters.2 m hm
    simp only [decide_eq_true_eq] at this
    omega
  unfold stepS
  rw [hc, hm]
  cases k <;> rfl
theorem split_letters {c : Int} : ∀ x ∈ splitS c, 4352 ≤ x ∧ x ≤ 4546 := by
  unfold splitS
  split
  · rename_i h
    obtain ⟨n, hn⟩ : ∃ n : Nat, n = (c - 44032).toNat := ⟨_, rfl⟩
    have hn2 : n ≤ 11171 := by omega
    rw [← hn]
    intro x hx
    unfold partsN at hx
    split at hx <;> simp only [List.mem_cons, List.not_mem_nil, or_false] at hx <;> omega
  · intro x hx
    cases hx
theorem one_of_plain {k : Bool} {x : Int} (h : PlainS k x) (n : Nat) : oneN k (n + 1) x = [x] := by
  rw [oneN, h.1, h.2]
  rfl
theorem one_split {k : Bool} {c : Int} (h : splitS c ≠ []) (n : Nat) : oneN k (n + 1) c = splitS c := by
  rw [oneN]
  cases hq : splitS c with
  | nil => exact absurd hq h
  | cons x l => rfl
theorem one_step {k : Bool} {c : Int} (h : splitS c = []) (h2 : stepS k c ≠ []) (n : Nat) : oneN k (n + 1) c = (stepS k c).flatMap (oneN k n) := by
  rw [oneN, h]
  cases hq : stepS k c with
  | nil => exact absurd hq h2
  | cons x l => rfl
theorem deep_step {k : Bool} {n : Nat} {c : Int} (h : deepB k (n + 1) c = true) (hs : splitS c = []) : inI c = true ∧ ∀ x ∈ stepS k c, deepB k n x = true := by
  rw [deepB, Bool.and_eq_true] at h
  refine ⟨h.1, ?_⟩
  have := h.2
  rw [hs] at this
  simpa using this
/-- what a number comes apart to comes apart no more -/
theorem one_plain {k : Bool} : ∀ {n : Nat} {c : Int}, deepB k n c = true → ∀ x ∈ oneN k n c, PlainS k x
  | 0, _, h, _, _ => by cases h
  | n + 1, c, h, x, hx => by
    by_cases hs : splitS c = []
    · obtain ⟨_, hd⟩ := deep_step h hs
      by_cases ht : stepS k c = []
      · rw [one_of_plain ⟨hs, ht⟩] at hx
        obtain rfl : x = c := by simpa using hx
        exact ⟨hs, ht⟩
      · rw [one_step hs ht, List.mem_flatMap] at hx
        obtain ⟨y, hy, hx⟩ := hx
        exact one_plain (hd y hy) x hx
    · rw [one_split hs] at hx
      obtain ⟨h0, h1⟩ := split_letters x hx
      exact letter_plain k h0 h1
/-- more levels change nothing -/
theorem one_more {k : Bool} : ∀ {n : Nat} {c : Int}, deepB k n c = true → ∀ m, n ≤ m → oneN k m c = oneN k n c
  | 0, _, h, _, _ => by cases h
  | n + 1, c, h, m, hm => by
    obtain ⟨m, rfl⟩ : ∃ j, m = j + 1 := ⟨m - 1, by omega⟩
    by_cases hs : splitS c = []
    · obtain ⟨_, hd⟩ := deep_step h hs
      by_cases ht : stepS k c = []
      · rw [one_of_plain ⟨hs, ht⟩, one_of_plain ⟨hs, ht⟩]
      · rw [one_step hs ht, one_step hs ht]
        have key : ∀ l : List Int, (∀ x ∈ l, deepB k n x = true) → l.flatMap (oneN k m) = l.flatMap (oneN k n) := fun l => by
          induction l with
          | nil => intro _; rfl
          | cons x l ih =>
            intro hl
            rw [List.flatMap_cons, List.flatMap_cons, ih fun y hy => hl y (List.mem_cons_of_mem _ hy), one_more (hl x (List.mem_cons_self ..)) m (by omega)]
        exact key _ hd
    · rw [one_split hs, one_split hs]
theorem flat_same {f g : Int → List Int} : ∀ {l : List Int}, (∀ x ∈ l, f x = g x) → l.flatMap f = l.flatMap g
  | [], _ => rfl
  | x :: l, h => by rw [List.flatMap_cons, List.flatMap_cons, h x (List.mem_cons_self ..), flat_same fun y hy => h y (List.mem_cons_of_mem _ hy)]
/-- by its parts -/
theorem one_parts {k : Bool} {c : Int} (hi : inI c = true) (hs : splitS c = []) (ht : stepS k c ≠ []) : oneS k c = allS k (stepS k c) := by
  have hd := (deep_step (deep_all (k := k) hi) hs).2
  unfold oneS allS
  rw [one_step hs ht]
  exact flat_same fun x hx => (one_more (hd x hx) 4 (by omega)).symm
theorem oneS_plain {k : Bool} {c : Int} (hi : inI c = true) : ∀ x ∈ oneS k c, PlainS k x := one_plain (deep_all hi)
theorem oneS_of_plain {k : Bool} {x : Int} (h : PlainS k x) : oneS k x = [x] := one_of_plain h 3
theorem allS_plain {k : Bool} : ∀ {l : List Int}, (∀ x ∈ l, PlainS k x) → allS k l = l
  | [], _ => rfl
  | x :: l, h => by
    have ih := allS_plain (l := l) fun y hy => h y (List.mem_cons_of_mem _ hy)
    unfold allS at ih ⊢
    rw [List.flatMap_cons, ih, oneS_of_plain (h x (List.mem_cons_self ..))]
    rfl
/-- what is taken apart stays -/
theorem allS_mem {k : Bool} {s : List Int} (hi : s.all inI = true) : ∀ x ∈ allS k s, PlainS k x := fun x hx => by
  unfold allS at hx
  rw [List.mem_flatMap] at hx
  obtain ⟨c, hc, hx⟩ := hx
  exact oneS_plain (List.all_eq_true.1 hi c hc) x hx
theorem allS_stays {k : Bool} {s : List Int} (hi : s.all inI = true) : allS k (allS k s) = allS k s := allS_plain (allS_mem hi)
theorem allS_app (k : Bool) (a b : List Int) : allS k (a ++ b) = allS k a ++ allS k b := List.flatMap_append ..
theorem one_ne {k : Bool} : ∀ (n : Nat) (c : Int), oneN k n c ≠ []
  | 0, c => by simp [oneN]
  | n + 1, c => by
    by_cases hs : splitS c = []
    · by_cases ht : stepS k c = []
      · rw [one_of_plain ⟨hs, ht⟩]; simp
      · rw [one_step hs ht]
        cases hq : stepS k c with
        | nil => exact absurd hq ht
        | cons x l =>
          rw [List.flatMap_cons]
          intro h
          exact one_ne n x (List.append_eq_nil_iff.1 h).1
    · rw [one_split hs]; exact hs
theorem allS_len (k : Bool) : ∀ s : List Int, s.length ≤ (allS k s).length
  | [] => Nat.le_refl _
  | c :: s => by
    have ih := allS_len k s
    have := List.length_pos_iff.2 (one_ne (k := k) 4 c)
    unfold allS at ih ⊢
    unfold oneS at ih ⊢
    rw [List.flatMap_cons, List.length_append, List.length_cons]
    omega
theorem step_canon {k : Bool} {c : Int} (h : canonS c ≠ []) : stepS k c = canonS c := by
  unfold stepS
  cases hq : canonS c with
  | nil => exact absurd hq h
  | cons x l => rfl
/-- canonically, then compatibly, is compatibly -/
theorem one_twice : ∀ {n : Nat} {c : Int}, deepB false n c = true → (oneN false n c).flatMap (oneS true) = oneS true c
  | 0, _, h => by cases h
  | n + 1, c, h => by
    by_cases hs : splitS c = []
    · obtain ⟨hi, hd⟩ := deep_step h hs
      by_cases hc : canonS c = []
      · have ht : stepS false c = [] := by unfold stepS; rw [hc]; rfl
        rw [one_of_plain ⟨hs, ht⟩]
        simp
      · have e1 : stepS false c = canonS c := step_canon hc
        have e2 : stepS true c = canonS c := step_canon hc
        rw [one_step hs (by rw [e1]; exact hc), one_parts hi hs (by rw [e2]; exact hc), e1, e2, List.flatMap_assoc]
        unfold allS
        exact flat_same fun x hx => one_twice (hd x (by rw [e1]; exact hx))
    · rw [one_split hs]
      have e : oneS true c = splitS c := one_split hs 3
      rw [e]
      have : allS true (splitS c) = splitS c := allS_plain fun x hx => letter_plain true (split_letters x hx).1 (split_letters x hx).2
      exact this
theorem allS_twice {s : List Int} (hi : s.all inI = true) : allS true (allS false s) = allS true s := by
  unfold allS
  rw [List.flatMap_assoc]
  exact flat_same fun c hc => one_twice (deep_all (List.all_eq_true.1 hi c hc))
end Go.Proofs.Ytimbchkoomjhkaa

/-! DecOk -/
namespace Go.Proofs.Ytimbchkoomjhkaa
open Go.RowKit

def DAllOk : Prop := ∀ (k : Bool) (v : Value) (s : List Int) (w : World), Sl .i64 w v s → s.all inI = true → s.length ≤ 1000000 → Calls Try.prog 32 #[v, .bool k] w fun e w' => ∃ x, e = .returned x ∧ Own .i64 3 w.heap.size w' x (allS k s) ∧ Below w.heap.size w w'

theorem one_inI {k : Bool} : ∀ {n : Nat} {c : Int}, deepB k n c = true → ∀ x ∈ oneN k n c, inI x = true
  | 0, _, h, _, _ => by cases h
  | n + 1, c, h, x, hx => by
    by_cases hs : splitS c = []
    · obtain ⟨hi, hd⟩ := deep_step h hs
      by_cases ht : stepS k c = []
      · rw [one_of_plain ⟨hs, ht⟩] at hx
        obtain rfl : x = c := by simpa using hx
        exact hi
      · rw [one_step hs ht, List.mem_flatMap] at hx
        obtain ⟨y, hy, hx⟩ := hx
        exact one_inI (hd y hy) x hx
    · rw [one_split hs] at hx
      obtain ⟨h0, h1⟩ := split_letters x hx
      exact decide_eq_true ⟨by omega, by omega⟩
theorem allS_inI {k : Bool} {s : List Int} (hi : s.all inI = true) : (allS k s).all inI = true := by
  rw [List.all_eq_true]
  intro x hx
  unfold allS at hx
  rw [List.mem_flatMap] at hx
  obtain ⟨c, hc, hx⟩ := hx
  exact one_inI (deep_all (List.all_eq_true.1 hi c hc)) x hx
theorem allS_small {k : Bool} {s : List Int} (h : s.length ≤ 300) : (allS k s).length ≤ 1000000 := by
  have h2 : (allS k s).length ≤ s.length * (3 ^ 4 * 3) := each_len k 4 s
  omega
theorem allS_small2 {k : Bool} {s : List Int} (h : s.length ≤ 1000) : (allS k s).length ≤ 1000000 := by
  have h2 : (allS k s).length ≤ s.length * (3 ^ 4 * 3) := each_len k 4 s
  omega
set_option maxRecDepth 1000000 in
theorem w8_one : oneS false 7844 = [65, 770, 769] := by decide +kernel
set_option maxRecDepth 1000000 in
theorem w8_all : allS true [64257, 65] = [102, 105, 65] := by decide +kernel
set_option maxRecDepth 1000000 in
theorem w8_two : oneS false 64257 = [64257] := by decide +kernel

end Go.Proofs.Ytimbchkoomjhkaa

/-! Parts8 -/
namespace Go.Proofs.Ytimbchkoomjhkaa
open Go.RowKit

def partS (k : Bool) (c : Int) : List Int := if (splitS c).isEmpty then stepS k c else splitS c
theorem partS_split {k : Bool} {c : Int} (h : splitS c ≠ []) : partS k c = splitS c := by
  unfold partS
  rw [if_neg (by simpa using h)]
theorem partS_step {k : Bool} {c : Int} (h : splitS c = []) : partS k c = stepS k c := by
  unfold partS
  rw [h]
  rfl
theorem partS_len (k : Bool) (c : Int) : (partS k c).length ≤ 3 := by
  by_cases h : splitS c = []
  · rw [partS_step h]; exact stepS_len k c
  · rw [partS_split h]
    unfold splitS partsN
    split
    · split <;> simp
    · simp
theorem one_end {k : Bool} {c : Int} (h : partS k c = []) : oneS k c = [c] := by
  by_cases hs : splitS c = []
  · rw [partS_step hs] at h
    exact oneS_of_plain ⟨hs, h⟩
  · rw [partS_split hs] at h
    exact absurd h hs
theorem one_all {k : Bool} {c : Int} (hi : inI c = true) (h : partS k c ≠ []) : oneS k c = allS k (partS k c) := by
  by_cases hs : splitS c = []
  · rw [partS_step hs] at h ⊢
    exact one_parts hi hs h
  · rw [partS_split hs]
    rw [allS_plain (fun x hx => letter_plain k (split_letters x hx).1 (split_letters x hx).2)]
    exact one_split hs 3
theorem oneS_len (k : Bool) (c : Int) : (oneS k c).length ≤ 243 := oneN_len (stepS_len k) 4 c
/-- so many levels of parts suffice -/
def deepP (k : Bool) : Nat → Int → Prop
  | 0, _ => False
  | n + 1, c => inI c = true ∧ ∀ x ∈ partS k c, deepP k n x
theorem deepP_of {k : Bool} : ∀ {n : Nat} {c : Int}, deepB k n c = true → deepP k (n + 1) c
  | 0, _, h => by cases h
  | n + 1, c, h => by
    by_cases hs : splitS c = []
    · obtain ⟨hi, hd⟩ := deep_step h hs
      refine ⟨hi, fun x hx => ?_⟩
      rw [partS_step hs] at hx
      exact deepP_of (hd x hx)
    · refine ⟨?_, fun x hx => ?_⟩
      · unfold deepB at h
        simp only [Bool.and_eq_true] at h
        exact h.1
      · rw [partS_split hs] at hx
        obtain ⟨h0, h1⟩ := split_letters x hx
        refine ⟨decide_eq_true ⟨by omega, by omega⟩, fun y hy => ?_⟩
        obtain ⟨hp, hq⟩ := letter_plain k h0 h1
        rw [partS_step hp, hq] at hy
        cases hy
theorem deep_five {k : Bool} {c : Int} (h : inI c = true) : deepP k 5 c := deepP_of (deep_all h)
end Go.Proofs.Ytimbchkoomjhkaa

/-! UcdFacts -/
namespace Go.Proofs.Ytimbchkoomjhkaa
open Go.RowKit

set_option maxRecDepth 100000
theorem f_pair1 : pairS 65 768 = (192, true) := by decide +kernel
theorem f_pair2 : pairS 776 769 = (0, false) := by decide +kernel
theorem f_class : classS 768 = 230 := by decide +kernel
theorem f_space1 : hasS tabSpaces 32 = false := by decide +kernel
theorem f_space2 : hasS tabSpaces 160 = true := by decide +kernel
theorem f_fold : mapS tabFolds 223 = [115, 115] := by decide +kernel
theorem f_canon : canonS 8490 = [75] := by decide +kernel
/-- each pair is taken apart to itself; it and what it begins with have class 0; it has no compatibility decomposition -/
theorem f_pairs : (tabPair.all fun r => canonS r.f == [r.t, r.v] && (classS r.f == 0 && (classS r.t == 0 && (scalarB r.f && ((r.v != 0) && (mapS tabCompat r.f == [])))))) = true := by decide +kernel
theorem f_canons : (tabCanon.all fun r => canonS r.f == (if r.v == 0 then [r.t] else [r.t, r.v])) = true := by decide +kernel
theorem f_compats : (tabCompat.all fun m => mapS tabCompat m.f == m.t && (canonS m.f == [])) = true := by decide +kernel
theorem f_folds : (tabFolds.all fun m => mapS tabFolds m.f == m.t && (m.t.all fun x => mapS tabFolds x == [])) = true := by decide +kernel
end Go.Proofs.Ytimbchkoomjhkaa

/-! UcdWakes -/
namespace Go.Proofs.Ytimbchkoomjhkaa
open Go.RowKit

end Go.Proofs.Ytimbchkoomjhkaa

/-! LawPairs6 -/
namespace Go.Proofs.Ytimbchkoomjhkaa
open Go.RowKit

theorem fndS_true {p : Rg → Bool} : ∀ {l : List Rg}, (fndS p l).2 = true → (fndS p l).1 ∈ l ∧ p (fndS p l).1 = true
  | [], h => by simp [fndS] at h
  | r :: l, h => by
    by_cases hp : p r = true
    · rw [fndS, if_pos hp]
      exact ⟨List.mem_cons_self .., hp⟩
    · rw [fndS, if_neg hp] at h ⊢
      have := fndS_true h
      exact ⟨List.mem_cons_of_mem _ this.1, this.2⟩
theorem fndS_false {p : Rg → Bool} : ∀ {l : List Rg}, (fndS p l).2 = false → (fndS p l).1 = noRg
  | [], _ => rfl
  | r :: l, h => by
    by_cases hp : p r = true
    · rw [fndS, if_pos hp] at h
      simp at h
    · rw [fndS, if_neg hp] at h ⊢
      exact fndS_false h
theorem pair_facts {a b : Int} (h : (pairS a b).2 = true) : canonS (pairS a b).1 = [a, b] ∧ classS (pairS a b).1 = 0 ∧ classS a = 0 ∧ scalarB (pairS a b).1 = true ∧ (b != 0) = true ∧ mapS tabCompat (pairS a b).1 = [] := by
  obtain ⟨hm, hp⟩ := fndS_true (p := fun r => r.t == a && r.v == b) (l := tabPair) h
  have hf := List.all_eq_true.1 f_pairs _ hm
  simp only [Bool.and_eq_true, beq_iff_eq] at hf hp
  obtain ⟨h1, h2, h3, h4, h5, h6⟩ := hf
  rw [hp.1, hp.2] at h1
  rw [hp.1] at h3
  rw [hp.2] at h5
  exact ⟨h1, h2, h3, h4, h5, h6⟩

end Go.Proofs.Ytimbchkoomjhkaa

/-! OrdSpec -/
namespace Go.Proofs.Ytimbchkoomjhkaa

/-- x comes into what lies there so far, the last one first -/
def insG (cl : Int → Int) (x : Int) : List Int → List Int
  | [] => [x]
  | y :: r => if cl x ≠ 0 ∧ cl x < cl y then y :: insG cl x r else x :: y :: r
def putFrom (cl : Int → Int) (s acc : List Int) : List Int := s.foldl (fun a x => insG cl x a) acc
def putG (cl : Int → Int) (s : List Int) : List Int := (putFrom cl s []).reverse
/-- no number of a class other than 0 directly behind one of a greater class -/
def ordG (cl : Int → Int) : List Int → Bool
  | a :: b :: r => !decide (cl b ≠ 0 ∧ cl b < cl a) && ordG cl (b :: r)
  | _ => true

variable {cl : Int → Int}
theorem ins_len (x : Int) : ∀ acc : List Int, (insG cl x acc).length = acc.length + 1
  | [] => rfl
  | y :: r => by
    rw [insG]
    split
    · rw [List.length_cons, ins_len x r, List.length_cons]
    · rw [List.length_cons, List.length_cons]
theorem from_len : ∀ (s acc : List Int), (putFrom cl s acc).length = acc.length + s.length
  | [], acc => rfl
  | x :: s, acc => by
    show (putFrom cl s (insG cl x acc)).length = _
    rw [from_len s, ins_len, List.length_cons]
    omega
theorem put_len (s : List Int) : (putG cl s).length = s.length := by
  unfold putG
  rw [List.length_reverse, from_len]
  simp
theorem from_app (a b acc : List Int) : putFrom cl (a ++ b) acc = putFrom cl b (putFrom cl a acc) := List.foldl_append ..
theorem ins_zero {x : Int} (h : cl x = 0) (acc : List Int) : insG cl x acc = x :: acc := by
  cases acc with
  | nil => rfl
  | cons y r => rw [insG, if_neg (fun k => k.1 h)]
/-- nothing comes past a number of class 0 -/
theorem ins_wall (hp : ∀ c, 0 ≤ cl c) (x : Int) {A : List Int} (hA : A = [] ∨ ∃ z r, A = z :: r ∧ cl z = 0) : ∀ acc : List Int, insG cl x (acc ++ A) = insG cl x acc ++ A
  | [] => by
    rcases hA with rfl | ⟨z, r, rfl, hz⟩
    · rfl
    · show insG cl x (z :: r) = x :: z :: r
      rw [insG, if_neg (fun k => by have := hp x; omega)]
  | y :: acc => by
    show insG cl x (y :: (acc ++ A)) = _
    rw [insG, insG]
    split
    · rw [ins_wall hp x hA acc]; rfl
    · rfl
theorem from_wall (hp : ∀ c, 0 ≤ cl c) {A : List Int} (hA : A = [] ∨ ∃ z r, A = z :: r ∧ cl z = 0) : ∀ (s acc : List Int), putFrom cl s (acc ++ A) = putFrom cl s acc ++ A
  | [], _ => rfl
  | x :: s, acc => by
    show putFrom cl s (insG cl x (acc ++ A)) = putFrom cl s (insG cl x acc) ++ A
    rw [ins_wall hp x hA, from_wall hp hA s]
/-- behind a number of class 0, what follows is put in order by itself -/
theorem put_behind (hp : ∀ c, 0 ≤ cl c) {z : Int} (hz : cl z = 0) (a b : List Int) : putG cl (a ++ z :: b) = putG cl a ++ z :: putG cl b := by
  unfold putG
  rw [from_app]
  show (putFrom cl b (insG cl z (putFrom cl a []))).reverse = _
  rw [ins_zero hz]
  have := from_wall (cl := cl) hp (A := z :: putFrom cl a []) (.inr ⟨_, _, rfl, hz⟩) b []
  rw [List.nil_append] at this
  rw [this]
  simp
theorem put_zero (hp : ∀ c, 0 ≤ cl c) {z : Int} (hz : cl z = 0) (b : List Int) : putG cl (z :: b) = z :: putG cl b := put_behind hp hz [] b
theorem put_parts (hp : ∀ c, 0 ≤ cl c) (a : List Int) {b : List Int} (hb : b = [] ∨ ∃ z r, b = z :: r ∧ cl z = 0) : putG cl (a ++ b) = putG cl a ++ putG cl b := by
  rcases hb with rfl | ⟨z, r, rfl, hz⟩
  · rw [List.append_nil]
    exact (List.append_nil _).symm
  · rw [put_behind hp hz, put_zero hp hz]
/-- the last number first: in order -/
def ordR (cl : Int → Int) : List Int → Prop
  | y :: z :: r => ¬ (cl y ≠ 0 ∧ cl y < cl z) ∧ ordR cl (z :: r)
  | _ => True
theorem ordR_tail {y : Int} {r : List Int} (h : ordR cl (y :: r)) : ordR cl r := by
  cases r with
  | nil => trivial
  | cons z r => exact h.2
theorem ins_ord (hp : ∀ c, 0 ≤ cl c) (x : Int) : ∀ acc : List Int, ordR cl acc → ordR cl (insG cl x acc)
  | [], _ => trivial
  | y :: r, h => by
    rw [insG]
    split
    · rename_i hc
      have ih := ins_ord hp x r (ordR_tail h)
      cases r with
      | nil =>
        rw [insG] at ih ⊢
        exact ⟨by omega, trivial⟩
      | cons z r =>
        rw [insG] at ih ⊢
        split
        · rename_i h2
          rw [if_pos h2] at ih
          exact ⟨h.1, ih⟩
        · rename_i h2
          rw [if_neg h2] at ih
          exact ⟨by omega, ih⟩
    · rename_i hc
      exact ⟨hc, h⟩
theorem from_ord (hp : ∀ c, 0 ≤ cl c) : ∀ (s acc : List Int), ordR cl acc → ordR cl (putFrom cl s acc)
  | [], _, h => h
  | x :: s, acc, h => from_ord hp s _ (ins_ord hp x acc h)
theorem ord_app : ∀ (l : List Int) (a : Int), ordG cl (l ++ [a]) = (ordG cl l && !decide (∃ b, l.getLast? = some b ∧ cl a ≠ 0 ∧ cl a < cl b))
  | [], a => by simp [ordG]
  | [b], a => by
    show (!decide (cl a ≠ 0 ∧ cl a < cl b) && true) = _
    simp [ordG]
  | b :: c :: l, a => by
    show (!decide (cl c ≠ 0 ∧ cl c < cl b) && ordG cl (c :: l ++ [a])) = ((!decide (cl c ≠ 0 ∧ cl c < cl b) && ordG cl (c :: l)) && _)
    rw [ord_app (c :: l) a, Bool.and_assoc, List.getLast?_cons_cons]
theorem ord_rev : ∀ l : List Int, ordG cl l.reverse = true ↔ ordR cl l
  | [] => by simp [ordG, ordR]
  | [y] => by simp [ordG, ordR]
  | y :: z :: r => by
    rw [List.reverse_cons, ord_app, Bool.and_eq_true, ord_rev (z :: r)]
    have e : (z :: r).reverse.getLast? = some z := by rw [List.getLast?_reverse]; rfl
    rw [e]
    constructor
    · rintro ⟨h, k⟩
      refine ⟨fun hc => ?_, h⟩
      simp only [Bool.not_eq_true', decide_eq_false_iff_not] at k
      exact k ⟨z, rfl, hc⟩
    · rintro ⟨k, h⟩
      refine ⟨h, ?_⟩
      simp only [Bool.not_eq_true', decide_eq_false_iff_not]
      rintro ⟨b, hb, hc⟩
      obtain rfl : z = b := by simpa using hb
      exact k hc
theorem put_ord (hp : ∀ c, 0 ≤ cl c) (s : List Int) : ordG cl (putG cl s) = true := (ord_rev _).2 (from_ord hp s [] trivial)
theorem from_stays : ∀ (s acc : List Int), ordR cl (s.reverse ++ acc) → putFrom cl s acc = s.reverse ++ acc
  | [], _, _ => rfl
  | x :: s, acc, h => by
    show putFrom cl s (insG cl x acc) = _
    rw [List.reverse_cons, List.append_assoc] at h ⊢
    have key : ∀ l : List Int, ordR cl (l ++ ([x] ++ acc)) → insG cl x acc = x :: acc := fun l => by
      induction l with
      | nil =>
        intro h
        cases acc with
        | nil => rfl
        | cons y r => rw [insG, if_neg h.1]
      | cons _ _ ih => exact fun h => ih (ordR_tail h)
    rw [key s.reverse h]
    exact from_stays s (x :: acc) h
theorem put_same {s : List Int} (h : ordG cl s = true) : putG cl s = s := by
  unfold putG
  rw [from_stays s [] (by rw [List.append_nil]; exact (ord_rev _).1 (by rwa [List.reverse_reverse]))]
  simp
theorem put_iff (hp : ∀ c, 0 ≤ cl c) (s : List Int) : ordG cl s = decide (putG cl s = s) := by
  rw [Bool.eq_iff_iff, decide_eq_true_iff]
  exact ⟨put_same, fun h => by rw [← h]; exact put_ord hp s⟩
theorem put_twice (hp : ∀ c, 0 ≤ cl c) (s : List Int) : putG cl (putG cl s) = putG cl s := put_same (put_ord hp s)
/-- the numbers of one class keep their order -/
theorem ins_class (k x : Int) : ∀ acc : List Int, (insG cl x acc).filter (fun c => cl c == k) = if cl x == k then x :: acc.filter (fun c => cl c == k) else acc.filter (fun c => cl c == k)
  | [] => by
    show List.filter _ [x] = _
    by_cases h : cl x == k
    · simp [h]
    · simp [h]
  | y :: r => by
    rw [insG]
    split
    · rename_i hc
      rw [List.filter_cons, ins_class k x r, List.filter_cons]
      by_cases h : cl x == k
      · have h2 : (cl y == k) = false := by rw [beq_eq_false_iff_ne]; rw [beq_iff_eq] at h; omega
        rw [h, h2]
        rfl
      · rw [if_neg h, if_neg h]
    · rw [List.filter_cons (x := x)]
theorem from_class (k : Int) : ∀ (s acc : List Int), (putFrom cl s acc).filter (fun c => cl c == k) = (s.filter (fun c => cl c == k)).reverse ++ acc.filter (fun c => cl c == k)
  | [], _ => rfl
  | x :: s, acc => by
    show (putFrom cl s (insG cl x acc)).filter _ = _
    rw [from_class k s, ins_class, List.filter_cons]
    by_cases h : cl x == k
    · rw [if_pos h, if_pos h]; simp
    · rw [if_neg h, if_neg h]
theorem put_class (k : Int) (s : List Int) : (putG cl s).filter (fun c => cl c == k) = s.filter (fun c => cl c == k) := by
  unfold putG
  rw [List.filter_reverse, from_class]
  simp
/-- in order, place by place -/
theorem ord_nth : ∀ {s : List Int}, ordG cl s = true → ∀ i, i + 1 < s.length → ¬ (cl (s.getD (i + 1) 0) ≠ 0 ∧ cl (s.getD (i + 1) 0) < cl (s.getD i 0))
  | [], _, _, h => by simp at h
  | [_], _, _, h => by simp at h
  | a :: b :: r, h, 0, _ => by
    rw [ordG, Bool.and_eq_true] at h
    have k := h.1
    simp only [Bool.not_eq_true', decide_eq_false_iff_not] at k
    exact k
  | a :: b :: r, h, i + 1, hi => by
    rw [ordG, Bool.and_eq_true] at h
    exact ord_nth h.2 i (by simpa using hi)
theorem ord_of : ∀ {s : List Int}, (∀ i, i + 1 < s.length → ¬ (cl (s.getD (i + 1) 0) ≠ 0 ∧ cl (s.getD (i + 1) 0) < cl (s.getD i 0))) → ordG cl s = true
  | [], _ => rfl
  | [_], _ => rfl
  | a :: b :: r, h => by
    rw [ordG, Bool.and_eq_true]
    refine ⟨?_, ord_of fun i hi => ?_⟩
    · simp only [Bool.not_eq_true', decide_eq_false_iff_not]
      exact h 0 (by simp)
    exact h (i + 1) (by simpa using hi)
theorem ord_not {s : List Int} {i : Nat} (hi : i + 1 < s.length) (h : cl (s.getD (i + 1) 0) ≠ 0 ∧ cl (s.getD (i + 1) 0) < cl (s.getD i 0)) : ordG cl s = false := by
  cases ho : ordG cl s with
  | false => rfl
  | true => exact absurd h (ord_nth ho i hi)
end Go.Proofs.Ytimbchkoomjhkaa

/-! OrdOk -/
namespace Go.Proofs.Ytimbchkoomjhkaa
open Go.RowKit

def OPutOk : Prop := ∀ (v : Value) (s : List Int) (w : World), Sl .i64 w v s → s.length ≤ 1000000 → Calls Try.prog 31 #[v] w fun e w' => ∃ x, e = .returned x ∧ Own .i64 3 w.heap.size w' x (putG classS s) ∧ Below w.heap.size w w'
theorem class_rows : (tabClasses.all fun r => decide (0 ≤ r.v)) = true := by decide +kernel
theorem look_pos {l : List Rg} (h : (l.all fun r => decide (0 ≤ r.v)) = true) (c : Int) : 0 ≤ lookS l c := by
  induction l with
  | nil => exact Int.le_refl 0
  | cons r l ih =>
    rw [List.all_cons, Bool.and_eq_true, decide_eq_true_eq] at h
    unfold lookS
    split
    · exact h.1
    · exact ih h.2
theorem class_pos (c : Int) : 0 ≤ classS c := by
  unfold classS
  split
  · exact look_pos class_rows c
  · exact Int.le_refl 0
set_option maxRecDepth 1000000 in
theorem w9_put : putG classS [97, 769, 803] = [97, 803, 769] := by decide +kernel
set_option maxRecDepth 1000000 in
theorem w9_no : ordG classS [769, 803] = false := by decide +kernel
set_option maxRecDepth 1000000 in
theorem w9_yes : ordG classS [769, 97, 803] = true := by decide +kernel

end Go.Proofs.Ytimbchkoomjhkaa
