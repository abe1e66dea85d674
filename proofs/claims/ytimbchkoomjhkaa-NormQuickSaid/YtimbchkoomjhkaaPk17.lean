/- Several texts in one: CompFacts, CompSpec, OrdProj, CompSame, FlatProj. -/
import Derived.Test.YtimbchkoomjhkaaPk16
/-! CompFacts -/
namespace Go.Proofs.Ytimbchkoomjhkaa
open Go.RowKit

def twoS (a b : Int) : Int × Bool := if (joinS a b).2 then ((joinS a b).1, true) else pairS a b
theorem look_zero {l : List Rg} {c : Int} (h : ∀ r ∈ l, ¬ (r.f ≤ c ∧ c ≤ r.t)) : lookS l c = 0 := by
  induction l with
  | nil => rfl
  | cons r l ih =>
    unfold lookS
    rw [if_neg (h r (by simp))]
    exact ih fun r hr => h r (by simp [hr])
theorem class_off : (tabClasses.all fun r => decide ((r.t < 4352 ∨ 4546 < r.f) ∧ (r.t < 44032 ∨ 55203 < r.f))) = true := by decide +kernel
theorem class_letter {c : Int} (h : (4352 ≤ c ∧ c ≤ 4546) ∨ (44032 ≤ c ∧ c ≤ 55203)) : classS c = 0 := by
  unfold classS
  split
  · refine look_zero fun r hr hc => ?_
    have := List.all_eq_true.1 class_off r hr
    rw [decide_eq_true_iff] at this
    omega
  · rfl
theorem join_cases {a b : Int} (h : (joinS a b).2 = true) :
    (4352 ≤ a ∧ a ≤ 4370 ∧ 4449 ≤ b ∧ b ≤ 4469 ∧ (joinS a b).1 = 44032 + ((a - 4352) * 21 + (b - 4449)) * 28) ∨
    (44032 ≤ a ∧ a ≤ 55203 ∧ (a - 44032) % 28 = 0 ∧ 4520 ≤ b ∧ b ≤ 4546 ∧ (joinS a b).1 = a + b - 4519) := by
  unfold joinS at h ⊢
  by_cases h1 : 4352 ≤ a ∧ a ≤ 4370 ∧ 4449 ≤ b ∧ b ≤ 4469
  · rw [if_pos h1]
    exact .inl ⟨h1.1, h1.2.1, h1.2.2.1, h1.2.2.2, rfl⟩
  · rw [if_neg h1] at h ⊢
    by_cases h2 : 44032 ≤ a ∧ a ≤ 55203 ∧ (a - 44032) % 28 = 0 ∧ 4520 ≤ b ∧ b ≤ 4546
    · rw [if_pos h2]
      exact .inr ⟨h2.1, h2.2.1, h2.2.2.1, h2.2.2.2.1, h2.2.2.2.2, rfl⟩
    · rw [if_neg h2] at h
      cases h
theorem two_zero {a b : Int} (h : (twoS a b).2 = true) : classS a = 0 := by
  unfold twoS at h
  split at h
  · rename_i hj
    rcases join_cases hj with ⟨h0, h1, _⟩ | ⟨h0, h1, _⟩
    · exact class_letter (by omega)
    · exact class_letter (by omega)
  · exact (pair_facts h).2.2.1
theorem two_inI {a b : Int} (h : (twoS a b).2 = true) : inI (twoS a b).1 = true := by
  unfold twoS at h ⊢
  split at h
  · rename_i hj
    rw [if_pos hj]
    unfold inI
    rw [decide_eq_true_iff]
    rcases join_cases hj with ⟨h0, h1, h2, h3, he⟩ | ⟨h0, h1, h2, h3, h4, he⟩
    · show _ ≤ (joinS a b).1 ∧ (joinS a b).1 ≤ _
      rw [he]
      omega
    · show _ ≤ (joinS a b).1 ∧ (joinS a b).1 ≤ _
      rw [he]
      omega
  · rename_i hj
    rw [if_neg hj]
    exact scalar_inI (pair_facts h).2.2.2.1
theorem split_syll {l v t : Nat} (hl : l < 19) (hv : v < 21) (ht : t < 28) : splitS (44032 + (((21 * l + v) * 28 + t : Nat) : Int)) = if t = 0 then [4352 + (l : Int), 4449 + (v : Int)] else [4352 + (l : Int), 4449 + (v : Int), 4519 + (t : Int)] := by
  rw [splitS_in (by omega), parts_lvt hv ht]
theorem one_letter {c : Int} (h0 : 4352 ≤ c) (h1 : c ≤ 4546) : oneS false c = [c] := oneS_of_plain (letter_plain false h0 h1)
theorem rows_off10 : (tabCanon.all fun r => decide (r.f < 44032 ∨ 55203 < r.f)) = true := by decide +kernel
theorem canon_nosplit10 {c : Int} (h : canonS c ≠ []) : splitS c = [] := by
  obtain ⟨r, hr, rfl⟩ := canon_key h
  have := List.all_eq_true.1 rows_off10 r hr
  simp only [decide_eq_true_eq] at this
  exact splitS_out (by omega)
theorem two_apart {a b : Int} (h : (twoS a b).2 = true) : oneS false (twoS a b).1 = oneS false a ++ oneS false b := by
  have hi := two_inI h
  unfold twoS at h hi ⊢
  split at h
  · rename_i hj
    rw [if_pos hj]
    show oneS false (joinS a b).1 = _
    rcases join_cases hj with ⟨h0, h1, h2, h3, he⟩ | ⟨h0, h1, h2, h3, h4, he⟩
    · obtain ⟨l, hl⟩ : ∃ l : Nat, a = 4352 + (l : Int) := ⟨(a - 4352).toNat, by omega⟩
      obtain ⟨v, hv⟩ : ∃ v : Nat, b = 4449 + (v : Int) := ⟨(b - 4449).toNat, by omega⟩
      have hs := split_syll (l := l) (v := v) (t := 0) (by omega) (by omega) (by omega)
      rw [if_pos rfl] at hs
      have e : (joinS a b).1 = 44032 + (((21 * l + v) * 28 + 0 : Nat) : Int) := by rw [he]; omega
      rw [e, one_letter h0 (by omega), one_letter (c := b) (by omega) (by omega)]
      have := one_split (k := false) (c := 44032 + (((21 * l + v) * 28 + 0 : Nat) : Int)) (by rw [hs]; simp) 3
      rw [show oneS false (44032 + (((21 * l + v) * 28 + 0 : Nat) : Int)) = oneN false (3 + 1) (44032 + (((21 * l + v) * 28 + 0 : Nat) : Int)) from rfl, this, hs, hl, hv]
      rfl
    · obtain ⟨m, hm⟩ : ∃ m : Nat, a = 44032 + ((m * 28 : Nat) : Int) := ⟨((a - 44032) / 28).toNat, by omega⟩
      obtain ⟨t, ht⟩ : ∃ t : Nat, b = 4519 + (t : Int) := ⟨(b - 4519).toNat, by omega⟩
      have hlv : m = 21 * (m / 21) + m % 21 := by omega
      have hs1 := split_syll (l := m / 21) (v := m % 21) (t := 0) (by omega) (by omega) (by omega)
      rw [if_pos rfl, ← hlv] at hs1
      have hs2 := split_syll (l := m / 21) (v := m % 21) (t := t) (by omega) (by omega) (by omega)
      rw [if_neg (by omega), ← hlv] at hs2
      have e1 : a = 44032 + ((m * 28 + 0 : Nat) : Int) := hm
      have e2 : (joinS a b).1 = 44032 + ((m * 28 + t : Nat) : Int) := by rw [he]; omega
      rw [e2, one_letter (c := b) (by omega) (by omega), e1]
      have g1 := one_split (k := false) (c := 44032 + ((m * 28 + 0 : Nat) : Int)) (by rw [hs1]; simp) 3
      have g2 := one_split (k := false) (c := 44032 + ((m * 28 + t : Nat) : Int)) (by rw [hs2]; simp) 3
      rw [show oneS false (44032 + ((m * 28 + 0 : Nat) : Int)) = oneN false (3 + 1) (44032 + ((m * 28 + 0 : Nat) : Int)) from rfl, show oneS false (44032 + ((m * 28 + t : Nat) : Int)) = oneN false (3 + 1) (44032 + ((m * 28 + t : Nat) : Int)) from rfl, g1, g2, hs1, hs2, ht]
      rfl
  · rename_i hj
    rw [if_neg hj] at hi ⊢
    obtain ⟨hc, -⟩ := pair_facts h
    have hs : splitS (pairS a b).1 = [] := canon_nosplit10 (by rw [hc]; simp)
    have ht : stepS false (pairS a b).1 = [a, b] := by rw [step_canon (by rw [hc]; simp), hc]
    rw [one_parts hi hs (by rw [ht]; simp), ht]
    unfold allS
    simp
set_option maxRecDepth 1000000 in
theorem class_rows10 : (tabCanon.all fun r => classS r.f == 0 || (oneS false r.f).all fun x => classS x == classS r.f) = true := by decide +kernel
theorem class_apart {y : Int} (h : classS y ≠ 0) : ∀ x ∈ oneS false y, classS x = classS y := by
  intro x hx
  have hs : splitS y = [] := splitS_out (fun hc => h (class_letter (.inr hc)))
  by_cases hc : canonS y = []
  · have hp : oneS false y = [y] := oneS_of_plain ⟨hs, by unfold stepS; rw [hc]; rfl⟩
    rw [hp] at hx
    obtain rfl : x = y := by simpa using hx
    rfl
  · obtain ⟨r, hr, he⟩ := canon_key hc
    have := List.all_eq_true.1 class_rows10 r hr
    rw [he] at this
    simp only [Bool.or_eq_true, beq_iff_eq, List.all_eq_true] at this
    rcases this with this | this
    · exact absurd this h
    · exact this x hx
end Go.Proofs.Ytimbchkoomjhkaa

/-! CompSpec -/
namespace Go.Proofs.Ytimbchkoomjhkaa

/-- something stands between the starter and c -/
def offG (cl : Int → Int) (M : List Int) (c : Int) : Bool :=
  match M.getLast? with
  | none => false
  | some y => cl y == 0 || decide (cl c ≤ cl y)
/-- the list so far: what lies ahead of the starter, the starter, what lies behind it -/
structure Cp where
  p : List Int
  s : Option Int
  m : List Int
def Cp.out (q : Cp) : List Int := q.p ++ (q.s.toList ++ q.m)
def stepG (cl : Int → Int) (two : Int → Int → Int × Bool) (q : Cp) (c : Int) : Cp :=
  match q.s with
  | none => if cl c = 0 then ⟨q.p ++ q.m, some c, []⟩ else ⟨q.p, none, q.m ++ [c]⟩
  | some S => if (two S c).2 && !offG cl q.m c then ⟨q.p, some (two S c).1, q.m⟩ else if cl c = 0 then ⟨q.p ++ S :: q.m, some c, []⟩ else ⟨q.p, some S, q.m ++ [c]⟩
def fromG (cl : Int → Int) (two : Int → Int → Int × Bool) (s : List Int) : Cp := s.foldl (stepG cl two) ⟨[], none, []⟩
def compG (cl : Int → Int) (two : Int → Int → Int × Bool) (s : List Int) : List Int := (fromG cl two s).out

variable {cl : Int → Int} {two : Int → Int → Int × Bool}
theorem fromG_snoc (s : List Int) (c : Int) : fromG cl two (s ++ [c]) = stepG cl two (fromG cl two s) c := by
  unfold fromG
  rw [List.foldl_append]
  rfl
theorem step_join {q : Cp} {S c : Int} (hs : q.s = some S) (h : (two S c).2 = true) (ho : offG cl q.m c = false) : stepG cl two q c = ⟨q.p, some (two S c).1, q.m⟩ := by
  unfold stepG
  rw [hs]
  simp only [h, ho, Bool.not_false, Bool.and_true, if_true]
theorem step_new {q : Cp} {c : Int} (hc : cl c = 0) (h : ∀ S, q.s = some S → ((two S c).2 && !offG cl q.m c) = false) : stepG cl two q c = ⟨q.out, some c, []⟩ := by
  unfold stepG Cp.out
  cases hs : q.s with
  | none =>
    simp only [hc, if_true]
    rfl
  | some S =>
    simp only [h S hs, hc, if_true]
    rfl
theorem step_add {q : Cp} {c : Int} (hc : cl c ≠ 0) (h : ∀ S, q.s = some S → ((two S c).2 && !offG cl q.m c) = false) : stepG cl two q c = ⟨q.p, q.s, q.m ++ [c]⟩ := by
  unfold stepG
  cases hs : q.s with
  | none => simp only [hc, if_false]
  | some S =>
    simp only [h S hs, hc, if_false]
    rfl
theorem out_add (q : Cp) (c : Int) : (⟨q.p, q.s, q.m ++ [c]⟩ : Cp).out = q.out ++ [c] := by
  unfold Cp.out
  simp
theorem out_new (l : List Int) (c : Int) : (⟨l, some c, []⟩ : Cp).out = l ++ [c] := rfl
theorem step_out (q : Cp) (c : Int) : (∃ S, q.s = some S ∧ ((two S c).2 && !offG cl q.m c) = true ∧ stepG cl two q c = ⟨q.p, some (two S c).1, q.m⟩) ∨ ((∀ S, q.s = some S → ((two S c).2 && !offG cl q.m c) = false) ∧ (stepG cl two q c).out = q.out ++ [c]) := by
  by_cases h : ∃ S, q.s = some S ∧ ((two S c).2 && !offG cl q.m c) = true
  · obtain ⟨S, hs, hh⟩ := h
    refine .inl ⟨S, hs, hh, ?_⟩
    rw [Bool.and_eq_true, Bool.not_eq_true'] at hh
    exact step_join hs hh.1 hh.2
  · have hn : ∀ S, q.s = some S → ((two S c).2 && !offG cl q.m c) = false := fun S hs => by
      cases hb : ((two S c).2 && !offG cl q.m c) with
      | false => rfl
      | true => exact absurd ⟨S, hs, hb⟩ h
    refine .inr ⟨hn, ?_⟩
    by_cases hc : cl c = 0
    · rw [step_new hc hn]; rfl
    · rw [step_add hc hn, out_add]
theorem step_len (q : Cp) (c : Int) : (stepG cl two q c).out.length ≤ q.out.length + 1 := by
  rcases step_out (cl := cl) (two := two) q c with ⟨S, hs, -, he⟩ | ⟨-, he⟩
  · rw [he]
    unfold Cp.out
    rw [hs]
    simp
  · rw [he, List.length_append]
    exact Nat.le_refl _
theorem comp_len (s : List Int) : (compG cl two s).length ≤ s.length := by
  have key : ∀ (s : List Int) (q : Cp), (s.foldl (stepG cl two) q).out.length ≤ q.out.length + s.length := fun s => by
    induction s with
    | nil => intro q; exact Nat.le_refl _
    | cons c s ih =>
      intro q
      have h1 := ih (stepG cl two q c)
      have h2 := step_len (cl := cl) (two := two) q c
      rw [List.foldl_cons, List.length_cons]
      omega
  have h := key s ⟨[], none, []⟩
  rw [show ((⟨[], none, []⟩ : Cp).out).length = 0 from rfl, Nat.zero_add] at h
  exact h
/-- what holds of the numbers and of all that two of them make holds of the composition -/
theorem comp_all {R : Int → Prop} (h2 : ∀ a b, (two a b).2 = true → R (two a b).1) (s : List Int) (hs : ∀ x ∈ s, R x) : ∀ x ∈ compG cl two s, R x := by
  have key : ∀ (s : List Int) (q : Cp), (∀ x ∈ s, R x) → (∀ x ∈ q.out, R x) → ∀ x ∈ (s.foldl (stepG cl two) q).out, R x := fun s => by
    induction s with
    | nil => intro q _ h; exact h
    | cons c s ih =>
      intro q hs hq
      rw [List.foldl_cons]
      refine ih _ (fun x hx => hs x (List.mem_cons_of_mem _ hx)) ?_
      rcases step_out (cl := cl) (two := two) q c with ⟨S, hss, hh, he⟩ | ⟨-, he⟩
      · rw [he]
        rw [Bool.and_eq_true] at hh
        intro x hx
        unfold Cp.out at hx hq
        simp only [Option.toList_some, List.mem_append, List.mem_cons, List.not_mem_nil, or_false] at hx
        rcases hx with hx | rfl | hx
        · exact hq x (by simp [hx])
        · exact h2 S c hh.1
        · exact hq x (by simp [hx])
      · rw [he]
        intro x hx
        rcases List.mem_append.1 hx with hx | hx
        · exact hq x hx
        · obtain rfl : x = c := by simpa using hx
          exact hs x (by simp)
  exact key s ⟨[], none, []⟩ hs (by intro x hx; cases hx)
/-- two numbers alone -/
theorem comp_two (h2 : ∀ a b, (two a b).2 = true → cl a = 0) (a b : Int) : compG cl two [a, b] = if (two a b).2 then [(two a b).1] else [a, b] := by
  unfold compG fromG
  rw [List.foldl_cons, List.foldl_cons, List.foldl_nil]
  by_cases ha : cl a = 0
  · rw [step_new ha (by intro S h; cases h)]
    by_cases hb : (two a b).2 = true
    · rw [step_join (S := a) rfl hb rfl, if_pos hb]
      rfl
    · have hn : ∀ S, some a = some S → ((two S b).2 && !offG cl ([] : List Int) b) = false := fun S h => by
        cases h
        rw [Bool.not_eq_true] at hb
        rw [hb]
        rfl
      rw [if_neg hb]
      by_cases hc : cl b = 0
      · rw [step_new hc hn]; rfl
      · rw [step_add hc hn]; rfl
  · rw [step_add ha (by intro S h; cases h), if_neg (fun h => ha (h2 a b h))]
    have hn : ∀ S, (none : Option Int) = some S → ((two S b).2 && !offG cl ([] ++ [a] : List Int) b) = false := fun S h => by cases h
    by_cases hc : cl b = 0
    · rw [step_new hc hn]; rfl
    · rw [step_add hc hn]; rfl
/-- a letter and two marks -/
theorem comp_three {l a b : Int} (hl : cl l = 0) (ha : cl a ≠ 0) : compG cl two [l, a, b] =
    if (two l a).2 then (if (two (two l a).1 b).2 then [(two (two l a).1 b).1] else [(two l a).1, b])
    else if (two l b).2 && !decide (cl b ≤ cl a) then [(two l b).1, a] else [l, a, b] := by
  unfold compG fromG
  rw [List.foldl_cons, List.foldl_cons, List.foldl_cons, List.foldl_nil, step_new hl (by intro S h; cases h)]
  by_cases h1 : (two l a).2 = true
  · rw [step_join (S := l) rfl h1 rfl, if_pos h1]
    by_cases h3 : (two (two l a).1 b).2 = true
    · rw [step_join (S := (two l a).1) rfl h3 rfl, if_pos h3]
      rfl
    · rw [if_neg h3]
      have hn : ∀ S, some (two l a).1 = some S → ((two S b).2 && !offG cl ([] : List Int) b) = false := fun S h => by
        cases h
        rw [Bool.not_eq_true] at h3
        rw [h3]
        rfl
      by_cases hc : cl b = 0
      · rw [step_new hc hn]; rfl
      · rw [step_add hc hn]; rfl
  · rw [if_neg h1, step_add ha (by
      intro S h
      cases h
      rw [Bool.not_eq_true] at h1
      rw [h1]
      rfl)]
    have ho : offG cl ([] ++ [a] : List Int) b = decide (cl b ≤ cl a) := by
      show (cl a == 0 || decide (cl b ≤ cl a)) = _
      rw [show (cl a == 0) = false from beq_eq_false_iff_ne.2 ha]
      rfl
    by_cases h2 : ((two l b).2 && !decide (cl b ≤ cl a)) = true
    · rw [if_pos h2]
      rw [Bool.and_eq_true, Bool.not_eq_true'] at h2
      rw [step_join (S := l) rfl h2.1 (by rw [← ho] at h2; exact h2.2)]
      rfl
    · rw [if_neg h2]
      have hn : ∀ S, some l = some S → ((two S b).2 && !offG cl ([] ++ [a] : List Int) b) = false := fun S h => by
        cases h
        rw [ho]
        rw [Bool.not_eq_true] at h2
        exact h2
      by_cases hc : cl b = 0
      · rw [step_new hc hn]; rfl
      · rw [step_add hc hn]; rfl
end Go.Proofs.Ytimbchkoomjhkaa

/-! OrdProj -/
namespace Go.Proofs.Ytimbchkoomjhkaa

def projG (cl : Int → Int) (k : Int) (s : List Int) : List Int := s.filter (fun c => cl c == 0 || cl c == k)
variable {cl : Int → Int}
theorem proj_app (k : Int) (a b : List Int) : projG cl k (a ++ b) = projG cl k a ++ projG cl k b := List.filter_append ..
theorem proj_cons (k x : Int) (s : List Int) : projG cl k (x :: s) = if (cl x == 0 || cl x == k) then x :: projG cl k s else projG cl k s := List.filter_cons
theorem ins_proj (hp : ∀ c, 0 ≤ cl c) (k x : Int) : ∀ acc : List Int, projG cl k (insG cl x acc) = if (cl x == 0 || cl x == k) then x :: projG cl k acc else projG cl k acc
  | [] => by rw [insG, proj_cons]
  | y :: r => by
    rw [insG]
    split
    · rename_i hc
      rw [proj_cons, ins_proj hp k x r, proj_cons]
      by_cases h : (cl x == 0 || cl x == k) = true
      · have h2 : (cl y == 0 || cl y == k) = false := by
          have := hp x
          simp only [Bool.or_eq_true, beq_iff_eq] at h
          simp only [Bool.or_eq_false_iff, beq_eq_false_iff_ne]
          omega
        rw [h, h2]
        rfl
      · rw [if_neg h, if_neg h]
    · rw [proj_cons k x]
theorem from_proj (hp : ∀ c, 0 ≤ cl c) (k : Int) : ∀ (s acc : List Int), projG cl k (putFrom cl s acc) = (projG cl k s).reverse ++ projG cl k acc
  | [], _ => rfl
  | x :: s, acc => by
    show projG cl k (putFrom cl s (insG cl x acc)) = _
    rw [from_proj hp k s, ins_proj hp, proj_cons]
    by_cases h : (cl x == 0 || cl x == k) = true
    · rw [if_pos h, if_pos h]; simp
    · rw [if_neg h, if_neg h]
theorem put_proj (hp : ∀ c, 0 ≤ cl c) (k : Int) (s : List Int) : projG cl k (putG cl s) = projG cl k s := by
  unfold putG
  have := from_proj hp k s []
  unfold projG at this ⊢
  rw [List.filter_reverse, this]
  simp
theorem ord_tail {a : Int} : ∀ {s : List Int}, ordG cl (a :: s) = true → ordG cl s = true
  | [], _ => rfl
  | b :: r, h => by
    rw [ordG, Bool.and_eq_true] at h
    exact h.2
/-- in order behind a number of class m: the first number of class 0 or k, where k is less than m, is of class 0 -/
theorem first_proj {m k : Int} (hk0 : k ≠ 0) (hkm : k < m) : ∀ {b : Int} {s : List Int}, ordG cl (b :: s) = true → m ≤ cl b → cl b ≠ 0 → ∀ x r, projG cl k (b :: s) = x :: r → cl x = 0
  | b, [], _, hb, hb0, x, r, h => by
    have h2 : (cl b == 0 || cl b == k) = false := by
      simp only [Bool.or_eq_false_iff, beq_eq_false_iff_ne]
      omega
    rw [proj_cons, h2] at h
    cases h
  | b, c :: s, ho, hb, hb0, x, r, h => by
    have h2 : (cl b == 0 || cl b == k) = false := by
      simp only [Bool.or_eq_false_iff, beq_eq_false_iff_ne]
      omega
    rw [proj_cons, h2] at h
    simp only [Bool.false_eq_true, if_false] at h
    have ho' := ho
    rw [ordG, Bool.and_eq_true] at ho'
    have hc := ho'.1
    simp only [Bool.not_eq_true', decide_eq_false_iff_not] at hc
    by_cases hc0 : cl c = 0
    · rw [proj_cons, show (cl c == 0 || cl c == k) = true by simp [hc0]] at h
      simp only [if_true] at h
      injection h with h3 _
      rw [← h3]
      exact hc0
    · exact first_proj hk0 hkm ho'.2 (by omega) hc0 x r h
theorem sorted_proj (hp : ∀ c, 0 ≤ cl c) : ∀ {x y : List Int}, ordG cl x = true → ordG cl y = true → (∀ k, projG cl k x = projG cl k y) → x = y
  | [], [], _, _, _ => rfl
  | [], b :: y, _, _, h => by
    have := h (cl b)
    rw [proj_cons] at this
    simp [projG] at this
  | a :: x, [], _, _, h => by
    have := h (cl a)
    rw [proj_cons] at this
    simp [projG] at this
  | a :: x, b :: y, hx, hy, h => by
    have ha := hp a
    have hb := hp b
    have pa : ∀ k, (cl a == 0 || cl a == k) = true → ∃ r, projG cl k (a :: x) = a :: r := fun k hk => ⟨_, by rw [proj_cons, if_pos hk]⟩
    have pb : ∀ k, (cl b == 0 || cl b == k) = true → ∃ r, projG cl k (b :: y) = b :: r := fun k hk => ⟨_, by rw [proj_cons, if_pos hk]⟩
    have e : a = b := by
      obtain ⟨r1, h1⟩ := pa (cl a) (by simp)
      obtain ⟨r2, h2⟩ := pb (cl b) (by simp)
      by_cases ha0 : cl a = 0
      · obtain ⟨r3, h3⟩ := pa (cl b) (by simp [ha0])
        have := h (cl b)
        rw [h3, h2] at this
        injection this
      · by_cases hb0 : cl b = 0
        · obtain ⟨r3, h3⟩ := pb (cl a) (by simp [hb0])
          have := h (cl a)
          rw [h1, h3] at this
          injection this
        · by_cases hab : cl a = cl b
          · have := h (cl a)
            rw [h1, hab, h2] at this
            injection this
          · rcases Int.lt_or_gt_of_ne hab with hl | hl
            · have := h (cl a)
              rw [h1] at this
              exact absurd (first_proj ha0 hl hy (Int.le_refl _) hb0 a r1 this.symm) ha0
            · have := h (cl b)
              rw [h2] at this
              exact absurd (first_proj hb0 hl hx (Int.le_refl _) ha0 b r2 this) hb0
    subst e
    congr 1
    refine sorted_proj hp (ord_tail hx) (ord_tail hy) fun k => ?_
    have := h k
    rw [proj_cons, proj_cons] at this
    by_cases hk : (cl a == 0 || cl a == k) = true
    · rw [if_pos hk, if_pos hk] at this
      injection this
    · rw [if_neg hk, if_neg hk] at this
      exact this
theorem put_of_proj (hp : ∀ c, 0 ≤ cl c) {a b : List Int} (h : ∀ k, projG cl k a = projG cl k b) : putG cl a = putG cl b :=
  sorted_proj hp (put_ord hp a) (put_ord hp b) fun k => by rw [put_proj hp, put_proj hp, h k]
theorem proj_of_put (hp : ∀ c, 0 ≤ cl c) {a b : List Int} (h : putG cl a = putG cl b) (k : Int) : projG cl k a = projG cl k b := by
  rw [← put_proj hp, h, put_proj hp]
/-- numbers of no class of k's, and none of class 0 -/
theorem proj_none {k : Int} {s : List Int} (h : ∀ x ∈ s, cl x ≠ 0 ∧ cl x ≠ k) : projG cl k s = [] := by
  unfold projG
  rw [List.filter_eq_nil_iff]
  intro x hx
  obtain ⟨h1, h2⟩ := h x hx
  simp [h1, h2]
end Go.Proofs.Ytimbchkoomjhkaa

/-! CompSame -/
namespace Go.Proofs.Ytimbchkoomjhkaa

variable {cl : Int → Int} {two : Int → Int → Int × Bool} {o : Int → List Int}
/-- of class 0 and of k's class nothing comes of numbers of other classes -/
theorem flat_none {k : Int} (h2 : ∀ y, cl y ≠ 0 → ∀ x ∈ o y, cl x = cl y) {M : List Int} (hM : ∀ y ∈ M, cl y ≠ 0 ∧ cl y ≠ k) : projG cl k (M.flatMap o) = [] := by
  refine proj_none fun x hx => ?_
  rw [List.mem_flatMap] at hx
  obtain ⟨y, hy, hx⟩ := hx
  obtain ⟨h0, hk⟩ := hM y hy
  rw [h2 y h0 x hx]
  exact ⟨h0, hk⟩
/-- what holds of the list so far, behind the numbers p -/
def InvC (cl : Int → Int) (o : Int → List Int) (q : Cp) (p : List Int) : Prop :=
  (∀ k, projG cl k (q.out.flatMap o) = projG cl k (p.flatMap o)) ∧
  ((∃ S, q.s = some S) → ∀ y ∈ q.m, cl y ≠ 0 ∧ (∃ z, p.getLast? = some z ∧ cl y ≤ cl z) ∧ ∀ z, q.m.getLast? = some z → cl y ≤ cl z)
theorem inv_step (hp : ∀ c, 0 ≤ cl c) (h1 : ∀ S c, (two S c).2 = true → o (two S c).1 = o S ++ o c) (h2 : ∀ y, cl y ≠ 0 → ∀ x ∈ o y, cl x = cl y) {q : Cp} {p : List Int} {c : Int}
    (ho : ordG cl (p ++ [c]) = true) (hi : InvC cl o q p) : InvC cl o (stepG cl two q c) (p ++ [c]) := by
  obtain ⟨hi1, hi2⟩ := hi
  rw [ord_app, Bool.and_eq_true, Bool.not_eq_true', decide_eq_false_iff_not] at ho
  have hadj : ∀ z, p.getLast? = some z → cl c ≠ 0 → cl z ≤ cl c := fun z hz hc => by
    have := ho.2
    have h3 : ¬ (cl c ≠ 0 ∧ cl c < cl z) := fun h => this ⟨z, hz, h⟩
    omega
  by_cases hj : ∃ S, q.s = some S ∧ ((two S c).2 && !offG cl q.m c) = true
  · obtain ⟨S, hs, hh⟩ := hj
    rw [Bool.and_eq_true, Bool.not_eq_true'] at hh
    rw [step_join hs hh.1 hh.2]
    have hM : ∀ y ∈ q.m, cl y ≠ 0 ∧ cl y < cl c := fun y hy => by
      obtain ⟨g1, -, g3⟩ := hi2 ⟨S, hs⟩ y hy
      refine ⟨g1, ?_⟩
      cases hl : q.m.getLast? with
      | none =>
        rw [List.getLast?_eq_none_iff] at hl
        rw [hl] at hy
        cases hy
      | some z =>
        have h4 := hh.2
        unfold offG at h4
        rw [hl] at h4
        simp only [Bool.or_eq_false_iff, decide_eq_false_iff_not] at h4
        have := g3 z hl
        omega
    constructor
    · intro k
      have e1 : (⟨q.p, some (two S c).1, q.m⟩ : Cp).out.flatMap o = q.p.flatMap o ++ (o S ++ o c ++ q.m.flatMap o) := by
        unfold Cp.out
        simp only [List.flatMap_append, Option.toList_some, List.flatMap_cons, List.flatMap_nil, List.append_nil, h1 S c hh.1]
      have e2 : q.out.flatMap o = q.p.flatMap o ++ (o S ++ q.m.flatMap o) := by
        unfold Cp.out
        rw [hs]
        simp only [List.flatMap_append, Option.toList_some, List.flatMap_cons, List.flatMap_nil, List.append_nil]
      have e3 : (p ++ [c]).flatMap o = p.flatMap o ++ o c := by simp
      have e4 : projG cl k (o c) ++ projG cl k (q.m.flatMap o) = projG cl k (q.m.flatMap o) ++ projG cl k (o c) := by
        by_cases hm : q.m = []
        · rw [hm]
          simp [projG]
        · obtain ⟨y, hy⟩ := List.exists_mem_of_ne_nil _ hm
          have hc0 : cl c ≠ 0 := by
            have := (hM y hy).2
            have := hp y
            omega
          by_cases hk : k = cl c
          · rw [flat_none h2 (k := k) (M := q.m) (fun y hy => ⟨(hM y hy).1, by have := (hM y hy).2; omega⟩)]
            simp
          · have := flat_none (k := k) h2 (M := [c]) (fun y hy => by
              obtain rfl : y = c := by simpa using hy
              exact ⟨hc0, fun h => hk h.symm⟩)
            rw [show [c].flatMap o = o c by simp] at this
            rw [this]
            simp
      rw [e1, e3, proj_app, proj_app k (p.flatMap o), ← hi1 k, e2, proj_app, proj_app, proj_app, proj_app, List.append_assoc, e4, List.append_assoc, List.append_assoc]
    · intro _ y hy
      obtain ⟨g1, -, g3⟩ := hi2 ⟨S, hs⟩ y hy
      exact ⟨g1, ⟨c, by simp, by have := (hM y hy).2; omega⟩, g3⟩
  · have hn : ∀ S, q.s = some S → ((two S c).2 && !offG cl q.m c) = false := fun S hs => by
      cases hb : ((two S c).2 && !offG cl q.m c) with
      | false => rfl
      | true => exact absurd ⟨S, hs, hb⟩ hj
    have hout : (stepG cl two q c).out = q.out ++ [c] := by
      by_cases hc : cl c = 0
      · rw [step_new hc hn]; rfl
      · rw [step_add hc hn, out_add]
    constructor
    · intro k
      rw [hout, List.flatMap_append, List.flatMap_append, proj_app, proj_app, hi1 k]
    · by_cases hc : cl c = 0
      · rw [step_new hc hn]
        intro _ y hy
        cases hy
      · rw [step_add hc hn]
        rintro ⟨S, hs⟩ y hy
        have hs' : q.s = some S := hs
        have hy' : y ∈ q.m ++ [c] := hy
        rw [List.mem_append] at hy'
        have hle : cl y ≠ 0 ∧ cl y ≤ cl c := by
          rcases hy' with hy' | hy'
          · obtain ⟨g1, ⟨z, hz, hz2⟩, -⟩ := hi2 ⟨S, hs'⟩ y hy'
            have := hadj z hz hc
            exact ⟨g1, by omega⟩
          · obtain rfl : y = c := by simpa using hy'
            exact ⟨hc, Int.le_refl _⟩
        refine ⟨hle.1, ⟨c, by simp, hle.2⟩, fun z hz => ?_⟩
        have hz' : (q.m ++ [c]).getLast? = some z := hz
        rw [List.getLast?_append] at hz'
        obtain rfl : c = z := by simpa using hz'
        exact hle.2
theorem ord_prefix : ∀ {a b : List Int}, ordG cl (a ++ b) = true → ordG cl a = true
  | [], _, _ => rfl
  | [x], _, _ => rfl
  | x :: y :: a, b, h => by
    have h' : ordG cl (x :: y :: (a ++ b)) = true := h
    rw [ordG, Bool.and_eq_true] at h' ⊢
    exact ⟨h'.1, ord_prefix (a := y :: a) h'.2⟩
theorem comp_proj (hp : ∀ c, 0 ≤ cl c) (h1 : ∀ S c, (two S c).2 = true → o (two S c).1 = o S ++ o c) (h2 : ∀ y, cl y ≠ 0 → ∀ x ∈ o y, cl x = cl y) (s : List Int) (hs : ordG cl s = true) (k : Int) :
    projG cl k ((compG cl two s).flatMap o) = projG cl k (s.flatMap o) := by
  have key : ∀ n, n ≤ s.length → InvC cl o (fromG cl two (s.take n)) (s.take n) := fun n => by
    induction n with
    | zero => intro _; exact ⟨fun _ => rfl, fun _ y hy => by cases hy⟩
    | succ n ih =>
      intro hn
      have e : s.take (n + 1) = s.take n ++ [s[n]] := List.take_succ_eq_append_getElem hn
      have hord : ordG cl (s.take n ++ [s[n]]) = true := by
        rw [← e]
        exact ord_prefix (b := s.drop (n + 1)) (by rw [List.take_append_drop]; exact hs)
      rw [e, fromG_snoc]
      exact inv_step hp h1 h2 hord (ih (by omega))
  have := (key s.length (Nat.le_refl _)).1 k
  rw [List.take_length] at this
  exact this
theorem comp_same (hp : ∀ c, 0 ≤ cl c) (h1 : ∀ S c, (two S c).2 = true → o (two S c).1 = o S ++ o c) (h2 : ∀ y, cl y ≠ 0 → ∀ x ∈ o y, cl x = cl y) (s : List Int) (hs : ordG cl s = true) :
    putG cl ((compG cl two s).flatMap o) = putG cl (s.flatMap o) := put_of_proj hp (comp_proj hp h1 h2 s hs)
end Go.Proofs.Ytimbchkoomjhkaa

/-! FlatProj -/
namespace Go.Proofs.Ytimbchkoomjhkaa

variable {cl : Int → Int} {o : Int → List Int}
/-- two numbers of unlike classes other than 0 may change places before they come apart -/
theorem flat_turn (h2 : ∀ y, cl y ≠ 0 → ∀ x ∈ o y, cl x = cl y) {x y : Int} (hx : cl x ≠ 0) (hy : cl y ≠ 0) (hxy : cl x ≠ cl y) (k : Int) : projG cl k (o x ++ o y) = projG cl k (o y ++ o x) := by
  have hn : ∀ z, cl z ≠ 0 → cl z ≠ k → projG cl k (o z) = [] := fun z h0 hk => by
    have := flat_none (k := k) h2 (M := [z]) (fun y hy => by
      obtain rfl : y = z := by simpa using hy
      exact ⟨h0, hk⟩)
    simpa using this
  rw [proj_app, proj_app]
  by_cases hk : k = cl x
  · rw [hn y hy (fun h => hxy (by rw [← hk, h]))]
    simp
  · rw [hn x hx (fun h => hk h.symm)]
    simp
theorem ins_flat (h2 : ∀ y, cl y ≠ 0 → ∀ x ∈ o y, cl x = cl y) (hp : ∀ c, 0 ≤ cl c) (x : Int) : ∀ (acc : List Int) (k : Int), projG cl k ((insG cl x acc).reverse.flatMap o) = projG cl k ((x :: acc).reverse.flatMap o)
  | [], _ => rfl
  | y :: r, k => by
    rw [insG]
    split
    · rename_i hc
      have ih := ins_flat h2 hp x r k
      have hx := hp x
      rw [List.reverse_cons, List.flatMap_append, proj_app, ih]
      rw [List.reverse_cons, List.reverse_cons, List.reverse_cons, List.flatMap_append, List.flatMap_append, List.flatMap_append]
      have e := flat_turn (k := k) h2 (x := x) (y := y) hc.1 (by omega) (by omega)
      simp only [List.flatMap_cons, List.flatMap_nil, List.append_nil, List.append_assoc]
      rw [proj_app, List.append_assoc, ← proj_app, e, ← proj_app]
    · rfl
theorem from_flat (h2 : ∀ y, cl y ≠ 0 → ∀ x ∈ o y, cl x = cl y) (hp : ∀ c, 0 ≤ cl c) : ∀ (s acc : List Int) (k : Int), projG cl k ((putFrom cl s acc).reverse.flatMap o) = projG cl k ((acc.reverse ++ s).flatMap o)
  | [], acc, k => by rw [List.append_nil]; rfl
  | x :: s, acc, k => by
    show projG cl k ((putFrom cl s (insG cl x acc)).reverse.flatMap o) = _
    rw [from_flat h2 hp s, List.flatMap_append, proj_app, ins_flat h2 hp, ← proj_app, ← List.flatMap_append, List.reverse_cons, List.append_assoc]
    rfl
/-- what is put in order comes apart to the same, up to the order -/
theorem put_flat (h2 : ∀ y, cl y ≠ 0 → ∀ x ∈ o y, cl x = cl y) (hp : ∀ c, 0 ≤ cl c) (s : List Int) : putG cl ((putG cl s).flatMap o) = putG cl (s.flatMap o) :=
  put_of_proj hp fun k => from_flat h2 hp s [] k
theorem turn_flat (h2 : ∀ y, cl y ≠ 0 → ∀ x ∈ o y, cl x = cl y) (hp : ∀ c, 0 ≤ cl c) {x y : Int} (hx : cl x ≠ 0) (hy : cl y ≠ 0) (hxy : cl x ≠ cl y) (a b : List Int) : putG cl ((a ++ x :: y :: b).flatMap o) = putG cl ((a ++ y :: x :: b).flatMap o) :=
  put_of_proj hp fun k => by
    have e := flat_turn (k := k) h2 hx hy hxy
    rw [proj_app, proj_app] at e
    simp only [List.flatMap_append, List.flatMap_cons, proj_app]
    rw [← List.append_assoc (projG cl k (o x)), e, List.append_assoc]
end Go.Proofs.Ytimbchkoomjhkaa
