/- Several texts in one: NormFacts. -/
import Derived.Test.YtdncmdpacidgmaaPk22
/-! NormFacts -/
namespace Go.Proofs.Ytdncmdpacidgmaa
open Go.RowKit

theorem comp_id {cl : Int → Int} {two : Int → Int → Int × Bool} {s : List Int} (h : ∀ c ∈ s, ∀ S, (two S c).2 = false) : compG cl two s = s := by
  have key : ∀ (s : List Int) (q : Cp), (∀ c ∈ s, ∀ S, (two S c).2 = false) → (s.foldl (stepG cl two) q).out = q.out ++ s := fun s => by
    induction s with
    | nil => intro q _; exact (List.append_nil _).symm
    | cons c s ih =>
      intro q h
      rw [List.foldl_cons, ih _ (fun x hx => h x (List.mem_cons_of_mem _ hx))]
      rcases step_out (cl := cl) (two := two) q c with ⟨S, -, hh, -⟩ | ⟨-, he⟩
      · rw [h c (by simp) S] at hh
        cases hh
      · rw [he, List.append_assoc]
        rfl
  exact key s _ h
theorem fndS_key {p : Rg → Bool} {l : List Rg} (h : (fndS p l).2 = true) : (fndS p l).1 ∈ l ∧ p (fndS p l).1 = true := fndS_true (p := p) (l := l) h
theorem canon_row11 {m a b : Int} (h : canonS m = [a, b]) : ∃ r ∈ tabCanon, r.f = m ∧ r.t = a ∧ r.v = b ∧ b ≠ 0 := by
  unfold canonS at h
  split at h
  · unfold rowS at h
    split at h
    · rename_i hf
      obtain ⟨hm, hp⟩ := fndS_key hf
      split at h
      · cases h
      · rename_i hv
        injection h with h1 h2
        injection h2 with h2 _
        refine ⟨_, hm, by simpa using hp, h1, h2, ?_⟩
        rw [← h2]
        simpa using hv
    · cases h
  · cases h
theorem second_of {a c : Int} (h : (pairS a c).2 = true) : secondB c = true := by
  obtain ⟨hc, -⟩ := pair_facts h
  obtain ⟨r, hr, hf, ht, hv, h0⟩ := canon_row11 hc
  unfold secondB
  rw [List.any_eq_true]
  refine ⟨r, hr, ?_⟩
  rw [ht, hv, hf, h]
  simp [h0]
theorem quick_two {k : Bool} {c : Int} (h : quickB k c = true) (S : Int) : (twoS S c).2 = false := by
  unfold quickB at h
  simp only [Bool.and_eq_true, Bool.not_eq_true', Bool.or_eq_false_iff, decide_eq_false_iff_not] at h
  obtain ⟨-, ⟨h1, h2⟩, h3⟩ := h
  cases ht : (twoS S c).2 with
  | false => rfl
  | true =>
    unfold twoS at ht
    split at ht
    · rename_i hj
      rcases join_cases hj with ⟨_, _, g⟩ | ⟨_, _, _, g⟩
      · exact absurd ⟨g.1, g.2.1⟩ h1
      · exact absurd ⟨g.1, g.2.1⟩ h2
    · rw [second_of ht] at h3
      cases h3
theorem zero_ord {cl : Int → Int} {s : List Int} (h : ∀ c ∈ s, cl c = 0) : ordG cl s = true :=
  ord_of fun i hi hc => hc.1 (by
    have e : s.getD (i + 1) 0 = s[i + 1] := by rw [List.getD_eq_getElem?_getD, List.getElem?_eq_getElem hi]; rfl
    rw [e]
    exact h _ (List.getElem_mem _))
theorem flat_id {f : Int → List Int} : ∀ {s : List Int}, (∀ c ∈ s, f c = [c]) → s.flatMap f = s
  | [], _ => rfl
  | x :: s, h => by
    rw [List.flatMap_cons, h x (by simp), flat_id (fun c hc => h c (List.mem_cons_of_mem _ hc))]
    rfl
theorem quick_form {k : Bool} {s : List Int} (h : quickS k s = true) : formS k s = s := by
  have hq := fun c hc => List.all_eq_true.1 h c hc
  have h1 : ∀ c ∈ s, oneS k c = [c] ∧ classS c = 0 := fun c hc => by
    have := hq c hc
    unfold quickB at this
    simp only [Bool.and_eq_true, beq_iff_eq] at this
    exact this.1
  unfold formS apartS
  rw [show allS k s = s from flat_id (fun c hc => (h1 c hc).1), put_same (zero_ord fun c hc => (h1 c hc).2)]
  exact comp_id fun c hc S => quick_two (hq c hc) S
theorem quick_app (k : Bool) (a b : List Int) : quickS k (a ++ b) = (quickS k a && quickS k b) := List.all_append ..

/- single scalars -/
def scalarOk (r : Rg) : Bool :=
  match canonS r.f with
  | [] => true
  | [_] => formS false [r.f] != [r.f]
  | x :: y :: _ => (formS false [r.f] == [r.f]) == ((pairS x y).2 && (pairS x y).1 == r.f)
set_option maxRecDepth 1000000 in
theorem scalar_rows : tabCanon.all scalarOk = true := by decide +kernel
theorem scalar_one {c x : Int} (h : canonS c = [x]) : formS false [c] ≠ [c] := by
  obtain ⟨r, hr, he⟩ := canon_key (c := c) (by rw [h]; simp)
  have := List.all_eq_true.1 scalar_rows r hr
  unfold scalarOk at this
  rw [he, h] at this
  simpa using this
theorem scalar_two {c x y : Int} (h : canonS c = [x, y]) : (formS false [c] == [c]) = ((pairS x y).2 && (pairS x y).1 == c) := by
  obtain ⟨r, hr, he⟩ := canon_key (c := c) (by rw [h]; simp)
  have := List.all_eq_true.1 scalar_rows r hr
  unfold scalarOk at this
  rw [he, h] at this
  exact eq_of_beq this
theorem canon_len (c : Int) : canonS c = [] ∨ (∃ x, canonS c = [x]) ∨ ∃ x y, canonS c = [x, y] := by
  unfold canonS
  split
  · unfold rowS
    split
    · split
      · exact .inr (.inl ⟨_, rfl⟩)
      · exact .inr (.inr ⟨_, _, rfl⟩)
    · exact .inl rfl
  · exact .inl rfl
/- syllables -/
theorem syll_num {n : Nat} (h : n ≤ 11171) : ∃ l v t : Nat, l < 19 ∧ v < 21 ∧ t < 28 ∧ n = (21 * l + v) * 28 + t := ⟨n / 588, n % 588 / 28, n % 28, by omega, by omega, by omega, by omega⟩
theorem letters_zero {n : Nat} (h : n ≤ 11171) : ∀ x ∈ partsN n, 4352 ≤ x ∧ x ≤ 4546 := fun x hx => by
  have := splitS_in h
  exact split_letters x (by rw [this]; exact hx)
theorem letters_all {k : Bool} {s : List Int} (h : ∀ x ∈ s, 4352 ≤ x ∧ x ≤ 4546) : apartS k s = s := by
  unfold apartS
  rw [allS_plain (fun x hx => letter_plain k (h x hx).1 (h x hx).2), put_same (zero_ord fun x hx => class_letter (.inl (h x hx)))]
/-- a syllable behind which nothing is composed -/
theorem pair_letter {S c : Int} (h0 : 4352 ≤ c) (h1 : c ≤ 4546) : (pairS S c).2 = false := by
  cases hp : (pairS S c).2 with
  | false => rfl
  | true =>
    obtain ⟨hc, -⟩ := pair_facts hp
    obtain ⟨r, hr, -, -, hv, -⟩ := canon_row11 hc
    have hrows : (tabCanon.all fun r => decide (r.v < 4352 ∨ 4546 < r.v)) = true := by decide +kernel
    have := List.all_eq_true.1 hrows r hr
    rw [decide_eq_true_iff] at this
    omega
theorem two_lead {S : Int} {l : Nat} (h : l < 19) : (twoS S (4352 + (l : Int))).2 = false := by
  unfold twoS
  have hj : (joinS S (4352 + (l : Int))).2 = false := by
    cases hh : (joinS S (4352 + (l : Int))).2 with
    | false => rfl
    | true =>
      rcases join_cases hh with ⟨_, _, g, _⟩ | ⟨_, _, _, g, _⟩
      · omega
      · omega
  rw [hj]
  simp only [Bool.false_eq_true, if_false]
  exact pair_letter (by omega) (by omega)
/-- the letters of a syllable make it, whatever lies ahead -/
theorem fold_syll (q : Cp) {n : Nat} (h : n ≤ 11171) : (partsN n).foldl (stepG classS twoS) q = ⟨q.out, some (44032 + (n : Int)), []⟩ := by
  obtain ⟨l, v, t, hl, hv, ht, rfl⟩ := syll_num h
  rw [parts_lvt hv ht]
  have cz : ∀ x : Int, 4352 ≤ x → x ≤ 4546 → classS x = 0 := fun x h0 h1 => class_letter (.inl ⟨h0, h1⟩)
  have s1 : stepG classS twoS q (4352 + (l : Int)) = ⟨q.out, some (4352 + (l : Int)), []⟩ := step_new (cz _ (by omega) (by omega)) (fun S _ => by rw [two_lead hl]; rfl)
  have t2 : twoS (4352 + (l : Int)) (4449 + (v : Int)) = (44032 + (((21 * l + v) * 28 : Nat) : Int), true) := by
    unfold twoS
    rw [join_lv hl hv]
    rfl
  have s2 : stepG classS twoS ⟨q.out, some (4352 + (l : Int)), []⟩ (4449 + (v : Int)) = ⟨q.out, some (44032 + (((21 * l + v) * 28 : Nat) : Int)), []⟩ := by
    rw [step_join (S := 4352 + (l : Int)) rfl (by rw [t2]) rfl, t2]
  by_cases h0 : t = 0
  · subst h0
    rw [if_pos rfl, List.foldl_cons, List.foldl_cons, List.foldl_nil, s1, s2]
    rfl
  · rw [if_neg h0, List.foldl_cons, List.foldl_cons, List.foldl_cons, List.foldl_nil, s1, s2]
    have t3 : twoS (44032 + (((21 * l + v) * 28 : Nat) : Int)) (4519 + (t : Int)) = (44032 + (((21 * l + v) * 28 + t : Nat) : Int), true) := by
      unfold twoS
      rw [join_lvt (m := 21 * l + v) (by omega) (by omega) ht]
      rfl
    rw [step_join (S := 44032 + (((21 * l + v) * 28 : Nat) : Int)) rfl (by rw [t3]) rfl, t3]
theorem form_two {k : Bool} {a b : Nat} (ha : a ≤ 11171) (hb : b ≤ 11171) : formS k (partsN a ++ partsN b) = [44032 + (a : Int), 44032 + (b : Int)] := by
  unfold formS
  rw [letters_all (fun x hx => (List.mem_append.1 hx).elim (letters_zero ha x) (letters_zero hb x))]
  unfold compG fromG
  rw [List.foldl_append, fold_syll _ ha, fold_syll _ hb]
  rfl
theorem one_syll {k : Bool} {a : Nat} (ha : a ≤ 11171) : oneS k (44032 + (a : Int)) = partsN a := by
  have h := splitS_in ha
  have hne : splitS (44032 + (a : Int)) ≠ [] := by
    rw [h]
    unfold partsN
    split <;> simp
  have := one_split (k := k) hne 3
  rw [show oneS k (44032 + (a : Int)) = oneN k (3 + 1) (44032 + (a : Int)) from rfl, this, h]
theorem apart_two {k : Bool} {a b : Nat} (ha : a ≤ 11171) (hb : b ≤ 11171) : apartS k [44032 + (a : Int), 44032 + (b : Int)] = partsN a ++ partsN b := by
  have e : allS k [44032 + (a : Int), 44032 + (b : Int)] = partsN a ++ partsN b := by
    unfold allS
    simp only [List.flatMap_cons, List.flatMap_nil, List.append_nil, one_syll ha, one_syll hb]
  unfold apartS
  rw [e]
  exact put_same (zero_ord fun x hx => class_letter (.inl ((List.mem_append.1 hx).elim (letters_zero ha x) (letters_zero hb x))))
/-- what has no canonical decomposition is its own form -/
theorem scalar_none {c : Int} (hc : canonS c = []) : formS false [c] = [c] := by
  by_cases hs : splitS c = []
  · have hp : oneS false c = [c] := oneS_of_plain ⟨hs, by unfold stepS; rw [hc]; rfl⟩
    have e : apartS false [c] = [c] := by
      unfold apartS allS
      rw [List.flatMap_cons, hp]
      rfl
    unfold formS
    rw [e]
    unfold compG fromG
    rw [List.foldl_cons, List.foldl_nil]
    by_cases h0 : classS c = 0
    · rw [step_new h0 (fun S h => by cases h)]; rfl
    · rw [step_add h0 (fun S h => by cases h)]; rfl
  · have hin : 44032 ≤ c ∧ c ≤ 55203 := Classical.byContradiction fun h => hs (splitS_out h)
    obtain ⟨n, rfl⟩ : ∃ n : Nat, c = 44032 + (n : Int) := ⟨(c - 44032).toNat, by omega⟩
    have hn : n ≤ 11171 := by omega
    have e : apartS false [44032 + (n : Int)] = partsN n := by
      unfold apartS allS
      rw [List.flatMap_cons, one_syll hn, List.flatMap_nil, List.append_nil]
      exact put_same (zero_ord fun x hx => class_letter (.inl (letters_zero hn x hx)))
    unfold formS
    rw [e]
    unfold compG fromG
    rw [fold_syll _ hn]
    rfl
end Go.Proofs.Ytdncmdpacidgmaa
