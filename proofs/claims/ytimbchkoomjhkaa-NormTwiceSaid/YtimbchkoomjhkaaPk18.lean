/- Several texts in one: NormSpec, NormFacts, NormOk, HangOk. -/
import Derived.Test.YtimbchkoomjhkaaPk17
import Derived.Test.YtimbchkoomjhkaaPk16
import Derived.Test.YtimbchkoomjhkaaPk3
import Derived.Test.YtimbchkoomjhkaaPk2
/-! NormSpec -/
namespace Go.Proofs.Ytimbchkoomjhkaa
open Go.RowKit

def apartS (k : Bool) (s : List Int) : List Int := putG classS (allS k s)
def formS (k : Bool) (s : List Int) : List Int := compG classS twoS (apartS k s)
/-- the second number of a composite -/
def secondB (c : Int) : Bool := tabCanon.any fun x => x.v == c && (c != 0 && ((pairS x.t c).2 && (pairS x.t c).1 == x.f))
def quickB (k : Bool) (c : Int) : Bool := (oneS k c == [c] && classS c == 0) && (!(decide (4449 ≤ c ∧ c ≤ 4469) || decide (4520 ≤ c ∧ c ≤ 4546)) && !secondB c)
def quickS (k : Bool) (s : List Int) : Bool := s.all (quickB k)

/-- compatible or not: what two numbers make comes apart to what they do -/
theorem two_apartK {k : Bool} {a b : Int} (h : (twoS a b).2 = true) : oneS k (twoS a b).1 = oneS k a ++ oneS k b := by
  have hi := two_inI h
  have hl : ∀ c : Int, 4352 ≤ c → c ≤ 4546 → oneS k c = [c] := fun c h0 h1 => oneS_of_plain (letter_plain k h0 h1)
  unfold twoS at h hi ⊢
  split at h
  · rename_i hj
    rw [if_pos hj]
    show oneS k (joinS a b).1 = _
    rcases join_cases hj with ⟨h0, h1, h2, h3, he⟩ | ⟨h0, h1, h2, h3, h4, he⟩
    · obtain ⟨l, hl'⟩ : ∃ l : Nat, a = 4352 + (l : Int) := ⟨(a - 4352).toNat, by omega⟩
      obtain ⟨v, hv⟩ : ∃ v : Nat, b = 4449 + (v : Int) := ⟨(b - 4449).toNat, by omega⟩
      have hs := split_syll (l := l) (v := v) (t := 0) (by omega) (by omega) (by omega)
      rw [if_pos rfl] at hs
      have e : (joinS a b).1 = 44032 + (((21 * l + v) * 28 + 0 : Nat) : Int) := by rw [he]; omega
      rw [e, hl a h0 (by omega), hl b (by omega) (by omega)]
      have := one_split (k := k) (c := 44032 + (((21 * l + v) * 28 + 0 : Nat) : Int)) (by rw [hs]; simp) 3
      rw [show oneS k (44032 + (((21 * l + v) * 28 + 0 : Nat) : Int)) = oneN k (3 + 1) (44032 + (((21 * l + v) * 28 + 0 : Nat) : Int)) from rfl, this, hs, hl', hv]
      rfl
    · obtain ⟨m, hm⟩ : ∃ m : Nat, a = 44032 + ((m * 28 : Nat) : Int) := ⟨((a - 44032) / 28).toNat, by omega⟩
      obtain ⟨t, ht⟩ : ∃ t : Nat, b = 4519 + (t : Int) := ⟨(b - 4519).toNat, by omega⟩
      have hlv : m = 21 * (m / 21) + m % 21 := by omega
      have hs1 := split_syll (l := m / 21) (v := m % 21) (t := 0) (by omega) (by omega) (by omega)
      rw [if_pos rfl, ← hlv] at hs1
      have hs2 := split_syll (l := m / 21) (v := m % 21) (t := t) (by omega) (by omega) (by omega)
      rw [if_neg (by omega), ← hlv] at hs2
      have e1 : a = 44032 + ((m * 28 + 0 : Nat) : Int) := hm
      have e2 : (joinS a b).1 = 44032 + ((m * 28 + t : Nat) : Int) := by rw [he]; omega
      rw [e2, hl b (by omega) (by omega), e1]
      have g1 := one_split (k := k) (c := 44032 + ((m * 28 + 0 : Nat) : Int)) (by rw [hs1]; simp) 3
      have g2 := one_split (k := k) (c := 44032 + ((m * 28 + t : Nat) : Int)) (by rw [hs2]; simp) 3
      rw [show oneS k (44032 + ((m * 28 + 0 : Nat) : Int)) = oneN k (3 + 1) (44032 + ((m * 28 + 0 : Nat) : Int)) from rfl, show oneS k (44032 + ((m * 28 + t : Nat) : Int)) = oneN k (3 + 1) (44032 + ((m * 28 + t : Nat) : Int)) from rfl, g1, g2, hs1, hs2, ht]
      rfl
  · rename_i hj
    rw [if_neg hj] at hi ⊢
    obtain ⟨hc, -⟩ := pair_facts h
    have hs : splitS (pairS a b).1 = [] := canon_nosplit10 (by rw [hc]; simp)
    have ht : stepS k (pairS a b).1 = [a, b] := by rw [step_canon (by rw [hc]; simp), hc]
    rw [one_parts hi hs (by rw [ht]; simp), ht]
    unfold allS
    simp
set_option maxRecDepth 1000000 in
theorem class_rows11 : (tabCanon.all fun r => classS r.f == 0 || (oneS true r.f).all fun x => classS x == classS r.f) = true := by decide +kernel
set_option maxRecDepth 1000000 in
theorem class_rows11k : (tabCompat.all fun m => classS m.f == 0 || (oneS true m.f).all fun x => classS x == classS m.f) = true := by decide +kernel
theorem class_apartK {k : Bool} {y : Int} (h : classS y ≠ 0) : ∀ x ∈ oneS k y, classS x = classS y := by
  cases k with
  | false => exact class_apart h
  | true =>
    intro x hx
    have hs : splitS y = [] := splitS_out (fun hc => h (class_letter (.inr hc)))
    by_cases hc : canonS y = []
    · by_cases hm : mapS tabCompat y = []
      · have hp : oneS true y = [y] := oneS_of_plain ⟨hs, by unfold stepS; rw [hc]; exact hm⟩
        rw [hp] at hx
        obtain rfl : x = y := by simpa using hx
        rfl
      · obtain ⟨r, hr, he⟩ := map_key hm
        have := List.all_eq_true.1 class_rows11k r hr
        rw [he] at this
        simp only [Bool.or_eq_true, beq_iff_eq, List.all_eq_true] at this
        rcases this with this | this
        · exact absurd this h
        · exact this x hx
    · obtain ⟨r, hr, he⟩ := canon_key hc
      have := List.all_eq_true.1 class_rows11 r hr
      rw [he] at this
      simp only [Bool.or_eq_true, beq_iff_eq, List.all_eq_true] at this
      rcases this with this | this
      · exact absurd this h
      · exact this x hx
/-- the composition of what is in order comes apart as it does -/
theorem comp_apart (k : Bool) {A : List Int} (h : ordG classS A = true) : putG classS (allS k (compG classS twoS A)) = putG classS (allS k A) :=
  comp_same (o := oneS k) class_pos (fun _ _ h => two_apartK h) (fun _ h => class_apartK h) A h
theorem put_all (k : Bool) (s : List Int) : putG classS (allS k (putG classS s)) = putG classS (allS k s) := put_flat (o := oneS k) (fun _ h => class_apartK h) class_pos s
theorem put_memG {cl : Int → Int} {s : List Int} {x : Int} (h : x ∈ putG cl s) : x ∈ s := by
  have k2 : ∀ (y : Int) (acc : List Int), x ∈ insG cl y acc → x = y ∨ x ∈ acc := fun y acc => by
    induction acc with
    | nil => intro h; exact .inl (by simpa [insG] using h)
    | cons z r ih =>
      intro h
      rw [insG] at h
      split at h
      · rcases List.mem_cons.1 h with h | h
        · exact .inr (by simp [h])
        · rcases ih h with h | h
          · exact .inl h
          · exact .inr (List.mem_cons_of_mem _ h)
      · rcases List.mem_cons.1 h with h | h
        · exact .inl h
        · exact .inr h
  have key : ∀ (s acc : List Int), x ∈ putFrom cl s acc → x ∈ s ∨ x ∈ acc := fun s => by
    induction s with
    | nil => intro acc h; exact .inr h
    | cons y s ih =>
      intro acc h
      rcases ih _ h with h | h
      · exact .inl (List.mem_cons_of_mem _ h)
      · rcases k2 y acc h with h | h
        · exact .inl (by simp [h])
        · exact .inr h
  unfold putG at h
  rw [List.mem_reverse] at h
  rcases key s [] h with h | h
  · exact h
  · cases h
theorem apart_plain {k : Bool} {s : List Int} (hi : s.all inI = true) : ∀ x ∈ apartS k s, PlainS k x := fun x hx => allS_mem hi x (put_memG hx)
theorem plain_down {k : Bool} {x : Int} (h : PlainS k x) : PlainS false x := by
  refine ⟨h.1, ?_⟩
  by_cases hc : canonS x = []
  · unfold stepS
    rw [hc]
    rfl
  · have := h.2
    rw [step_canon hc] at this
    exact absurd this hc
theorem apart_ord (k : Bool) (s : List Int) : ordG classS (apartS k s) = true := put_ord class_pos _
theorem apart_apart {k : Bool} {s : List Int} (hi : s.all inI = true) : apartS k (apartS k s) = apartS k s := by
  show putG classS (allS k (apartS k s)) = _
  rw [allS_plain (apart_plain hi)]
  exact put_same (apart_ord k s)
theorem apart_form {k : Bool} {s : List Int} (hi : s.all inI = true) : apartS k (formS k s) = apartS k s := by
  show putG classS (allS k (compG classS twoS (apartS k s))) = _
  rw [comp_apart k (apart_ord k s)]
  exact apart_apart hi
theorem form_apart {k : Bool} {s : List Int} (hi : s.all inI = true) : formS k (apartS k s) = formS k s := by
  unfold formS
  rw [apart_apart hi]
theorem form_form {k : Bool} {s : List Int} (hi : s.all inI = true) : formS k (formS k s) = formS k s := by
  show compG classS twoS (apartS k (formS k s)) = _
  rw [apart_form hi]
  rfl
/-- first canonically, then compatibly -/
theorem apart_true_apart {s : List Int} (hi : s.all inI = true) : apartS true (apartS false s) = apartS true s := by
  show putG classS (allS true (putG classS (allS false s))) = putG classS (allS true s)
  rw [put_all, allS_twice hi]
theorem apart_true_form {s : List Int} (hi : s.all inI = true) : apartS true (formS false s) = apartS true s := by
  show putG classS (allS true (compG classS twoS (apartS false s))) = _
  rw [comp_apart true (apart_ord false s)]
  exact apart_true_apart hi
theorem form_true_form {s : List Int} (hi : s.all inI = true) : formS true (formS false s) = formS true s := by
  show compG classS twoS (apartS true (formS false s)) = _
  rw [apart_true_form hi]
  rfl
theorem form_true_apart {s : List Int} (hi : s.all inI = true) : formS true (apartS false s) = formS true s := by
  show compG classS twoS (apartS true (apartS false s)) = _
  rw [apart_true_apart hi]
  rfl
theorem form_false_form {s : List Int} (hi : s.all inI = true) : formS false (formS true s) = formS true s := by
  have h : apartS false (formS true s) = apartS true s := by
    show putG classS (allS false (compG classS twoS (apartS true s))) = _
    rw [comp_apart false (apart_ord true s), allS_plain (fun x hx => plain_down (apart_plain hi x hx))]
    exact put_same (apart_ord true s)
  show compG classS twoS (apartS false (formS true s)) = _
  rw [h]
  rfl
/-- the same canonically, the same compatibly -/
theorem same_true {a b : List Int} (ha : a.all inI = true) (hb : b.all inI = true) (h : formS false a = formS false b) : formS true a = formS true b := by
  rw [← form_true_form ha, h, form_true_form hb]
theorem turn_form {x y : Int} (hx : classS x ≠ 0) (hy : classS y ≠ 0) (hxy : classS x ≠ classS y) (a b : List Int) : formS false (a ++ x :: y :: b) = formS false (a ++ y :: x :: b) := by
  have : apartS false (a ++ x :: y :: b) = apartS false (a ++ y :: x :: b) := turn_flat (o := oneS false) (fun _ h => class_apartK h) class_pos hx hy hxy a b
  unfold formS
  rw [this]
end Go.Proofs.Ytimbchkoomjhkaa

/-! NormFacts -/
namespace Go.Proofs.Ytimbchkoomjhkaa
open Go.RowKit

theorem comp_id {cl : Int → Int} {two : Int → Int → Int × Bool} {s : List Int} (h : ∀ c ∈ s, ∀ S, (two S c).2 = false) : compG cl two s = s := by
  have key : ∀ (s : List Int) (q : Cp), (∀ c ∈ s, ∀ S, (two S c).2 = false) → (s.foldl (stepG cl two) q).out = q.out ++ s := fun s => by
    induction s with
    | nil => intro q _; exact (List.append_nil _).symm
    | cons c s ih =>
      intro q h
      rw [List.foldl_cons, ih _ (fun x hx => h x (List.mem_cons_of_mem _ hx))]
      rcases step_out (cl := cl) (two := two) q c with ⟨S, -, hh, -⟩ | ⟨-, he⟩
      · rw [h c (by simp) S] at hh
        cases hh
      · rw [he, List.append_assoc]
        rfl
  exact key s _ h
theorem fndS_key {p : Rg → Bool} {l : List Rg} (h : (fndS p l).2 = true) : (fndS p l).1 ∈ l ∧ p (fndS p l).1 = true := fndS_true (p := p) (l := l) h
theorem canon_row11 {m a b : Int} (h : canonS m = [a, b]) : ∃ r ∈ tabCanon, r.f = m ∧ r.t = a ∧ r.v = b ∧ b ≠ 0 := by
  unfold canonS at h
  split at h
  · unfold rowS at h
    split at h
    · rename_i hf
      obtain ⟨hm, hp⟩ := fndS_key hf
      split at h
      · cases h
      · rename_i hv
        injection h with h1 h2
        injection h2 with h2 _
        refine ⟨_, hm, by simpa using hp, h1, h2, ?_⟩
        rw [← h2]
        simpa using hv
    · cases h
  · cases h
theorem second_of {a c : Int} (h : (pairS a c).2 = true) : secondB c = true := by
  obtain ⟨hc, -⟩ := pair_facts h
  obtain ⟨r, hr, hf, ht, hv, h0⟩ := canon_row11 hc
  unfold secondB
  rw [List.any_eq_true]
  refine ⟨r, hr, ?_⟩
  rw [ht, hv, hf, h]
  simp [h0]
theorem quick_two {k : Bool} {c : Int} (h : quickB k c = true) (S : Int) : (twoS S c).2 = false := by
  unfold quickB at h
  simp only [Bool.and_eq_true, Bool.not_eq_true', Bool.or_eq_false_iff, decide_eq_false_iff_not] at h
  obtain ⟨-, ⟨h1, h2⟩, h3⟩ := h
  cases ht : (twoS S c).2 with
  | false => rfl
  | true =>
    unfold twoS at ht
    split at ht
    · rename_i hj
      rcases join_cases hj with ⟨_, _, g⟩ | ⟨_, _, _, g⟩
      · exact absurd ⟨g.1, g.2.1⟩ h1
      · exact absurd ⟨g.1, g.2.1⟩ h2
    · rw [second_of ht] at h3
      cases h3
theorem zero_ord {cl : Int → Int} {s : List Int} (h : ∀ c ∈ s, cl c = 0) : ordG cl s = true :=
  ord_of fun i hi hc => hc.1 (by
    have e : s.getD (i + 1) 0 = s[i + 1] := by rw [List.getD_eq_getElem?_getD, List.getElem?_eq_getElem hi]; rfl
    rw [e]
    exact h _ (List.getElem_mem _))
theorem flat_id {f : Int → List Int} : ∀ {s : List Int}, (∀ c ∈ s, f c = [c]) → s.flatMap f = s
  | [], _ => rfl
  | x :: s, h => by
    rw [List.flatMap_cons, h x (by simp), flat_id (fun c hc => h c (List.mem_cons_of_mem _ hc))]
    rfl
theorem quick_form {k : Bool} {s : List Int} (h : quickS k s = true) : formS k s = s := by
  have hq := fun c hc => List.all_eq_true.1 h c hc
  have h1 : ∀ c ∈ s, oneS k c = [c] ∧ classS c = 0 := fun c hc => by
    have := hq c hc
    unfold quickB at this
    simp only [Bool.and_eq_true, beq_iff_eq] at this
    exact this.1
  unfold formS apartS
  rw [show allS k s = s from flat_id (fun c hc => (h1 c hc).1), put_same (zero_ord fun c hc => (h1 c hc).2)]
  exact comp_id fun c hc S => quick_two (hq c hc) S
theorem quick_app (k : Bool) (a b : List Int) : quickS k (a ++ b) = (quickS k a && quickS k b) := List.all_append ..

/- single scalars -/
def scalarOk (r : Rg) : Bool :=
  match canonS r.f with
  | [] => true
  | [_] => formS false [r.f] != [r.f]
  | x :: y :: _ => (formS false [r.f] == [r.f]) == ((pairS x y).2 && (pairS x y).1 == r.f)
set_option maxRecDepth 1000000 in
theorem scalar_rows : tabCanon.all scalarOk = true := by decide +kernel
theorem scalar_one {c x : Int} (h : canonS c = [x]) : formS false [c] ≠ [c] := by
  obtain ⟨r, hr, he⟩ := canon_key (c := c) (by rw [h]; simp)
  have := List.all_eq_true.1 scalar_rows r hr
  unfold scalarOk at this
  rw [he, h] at this
  simpa using this
theorem scalar_two {c x y : Int} (h : canonS c = [x, y]) : (formS false [c] == [c]) = ((pairS x y).2 && (pairS x y).1 == c) := by
  obtain ⟨r, hr, he⟩ := canon_key (c := c) (by rw [h]; simp)
  have := List.all_eq_true.1 scalar_rows r hr
  unfold scalarOk at this
  rw [he, h] at this
  exact eq_of_beq this
theorem canon_len (c : Int) : canonS c = [] ∨ (∃ x, canonS c = [x]) ∨ ∃ x y, canonS c = [x, y] := by
  unfold canonS
  split
  · unfold rowS
    split
    · split
      · exact .inr (.inl ⟨_, rfl⟩)
      · exact .inr (.inr ⟨_, _, rfl⟩)
    · exact .inl rfl
  · exact .inl rfl
/- syllables -/
theorem syll_num {n : Nat} (h : n ≤ 11171) : ∃ l v t : Nat, l < 19 ∧ v < 21 ∧ t < 28 ∧ n = (21 * l + v) * 28 + t := ⟨n / 588, n % 588 / 28, n % 28, by omega, by omega, by omega, by omega⟩
theorem letters_zero {n : Nat} (h : n ≤ 11171) : ∀ x ∈ partsN n, 4352 ≤ x ∧ x ≤ 4546 := fun x hx => by
  have := splitS_in h
  exact split_letters x (by rw [this]; exact hx)
theorem letters_all {k : Bool} {s : List Int} (h : ∀ x ∈ s, 4352 ≤ x ∧ x ≤ 4546) : apartS k s = s := by
  unfold apartS
  rw [allS_plain (fun x hx => letter_plain k (h x hx).1 (h x hx).2), put_same (zero_ord fun x hx => class_letter (.inl (h x hx)))]
/-- a syllable behind which nothing is composed -/
theorem pair_letter {S c : Int} (h0 : 4352 ≤ c) (h1 : c ≤ 4546) : (pairS S c).2 = false := by
  cases hp : (pairS S c).2 with
  | false => rfl
  | true =>
    obtain ⟨hc, -⟩ := pair_facts hp
    obtain ⟨r, hr, -, -, hv, -⟩ := canon_row11 hc
    have hrows : (tabCanon.all fun r => decide (r.v < 4352 ∨ 4546 < r.v)) = true := by decide +kernel
    have := List.all_eq_true.1 hrows r hr
    rw [decide_eq_true_iff] at this
    omega
theorem two_lead {S : Int} {l : Nat} (h : l < 19) : (twoS S (4352 + (l : Int))).2 = false := by
  unfold twoS
  have hj : (joinS S (4352 + (l : Int))).2 = false := by
    cases hh : (joinS S (4352 + (l : Int))).2 with
    | false => rfl
    | true =>
      rcases join_cases hh with ⟨_, _, g, _⟩ | ⟨_, _, _, g, _⟩
      · omega
      · omega
  rw [hj]
  simp only [Bool.false_eq_true, if_false]
  exact pair_letter (by omega) (by omega)
/-- the letters of a syllable make it, whatever lies ahead -/
theorem fold_syll (q : Cp) {n : Nat} (h : n ≤ 11171) : (partsN n).foldl (stepG classS twoS) q = ⟨q.out, some (44032 + (n : Int)), []⟩ := by
  obtain ⟨l, v, t, hl, hv, ht, rfl⟩ := syll_num h
  rw [parts_lvt hv ht]
  have cz : ∀ x : Int, 4352 ≤ x → x ≤ 4546 → classS x = 0 := fun x h0 h1 => class_letter (.inl ⟨h0, h1⟩)
  have s1 : stepG classS twoS q (4352 + (l : Int)) = ⟨q.out, some (4352 + (l : Int)), []⟩ := step_new (cz _ (by omega) (by omega)) (fun S _ => by rw [two_lead hl]; rfl)
  have t2 : twoS (4352 + (l : Int)) (4449 + (v : Int)) = (44032 + (((21 * l + v) * 28 : Nat) : Int), true) := by
    unfold twoS
    rw [join_lv hl hv]
    rfl
  have s2 : stepG classS twoS ⟨q.out, some (4352 + (l : Int)), []⟩ (4449 + (v : Int)) = ⟨q.out, some (44032 + (((21 * l + v) * 28 : Nat) : Int)), []⟩ := by
    rw [step_join (S := 4352 + (l : Int)) rfl (by rw [t2]) rfl, t2]
  by_cases h0 : t = 0
  · subst h0
    rw [if_pos rfl, List.foldl_cons, List.foldl_cons, List.foldl_nil, s1, s2]
    rfl
  · rw [if_neg h0, List.foldl_cons, List.foldl_cons, List.foldl_cons, List.foldl_nil, s1, s2]
    have t3 : twoS (44032 + (((21 * l + v) * 28 : Nat) : Int)) (4519 + (t : Int)) = (44032 + (((21 * l + v) * 28 + t : Nat) : Int), true) := by
      unfold twoS
      rw [join_lvt (m := 21 * l + v) (by omega) (by omega) ht]
      rfl
    rw [step_join (S := 44032 + (((21 * l + v) * 28 : Nat) : Int)) rfl (by rw [t3]) rfl, t3]
theorem form_two {k : Bool} {a b : Nat} (ha : a ≤ 11171) (hb : b ≤ 11171) : formS k (partsN a ++ partsN b) = [44032 + (a : Int), 44032 + (b : Int)] := by
  unfold formS
  rw [letters_all (fun x hx => (List.mem_append.1 hx).elim (letters_zero ha x) (letters_zero hb x))]
  unfold compG fromG
  rw [List.foldl_append, fold_syll _ ha, fold_syll _ hb]
  rfl
theorem one_syll {k : Bool} {a : Nat} (ha : a ≤ 11171) : oneS k (44032 + (a : Int)) = partsN a := by
  have h := splitS_in ha
  have hne : splitS (44032 + (a : Int)) ≠ [] := by
    rw [h]
    unfold partsN
    split <;> simp
  have := one_split (k := k) hne 3
  rw [show oneS k (44032 + (a : Int)) = oneN k (3 + 1) (44032 + (a : Int)) from rfl, this, h]
theorem apart_two {k : Bool} {a b : Nat} (ha : a ≤ 11171) (hb : b ≤ 11171) : apartS k [44032 + (a : Int), 44032 + (b : Int)] = partsN a ++ partsN b := by
  have e : allS k [44032 + (a : Int), 44032 + (b : Int)] = partsN a ++ partsN b := by
    unfold allS
    simp only [List.flatMap_cons, List.flatMap_nil, List.append_nil, one_syll ha, one_syll hb]
  unfold apartS
  rw [e]
  exact put_same (zero_ord fun x hx => class_letter (.inl ((List.mem_append.1 hx).elim (letters_zero ha x) (letters_zero hb x))))
/-- what has no canonical decomposition is its own form -/
theorem scalar_none {c : Int} (hc : canonS c = []) : formS false [c] = [c] := by
  by_cases hs : splitS c = []
  · have hp : oneS false c = [c] := oneS_of_plain ⟨hs, by unfold stepS; rw [hc]; rfl⟩
    have e : apartS false [c] = [c] := by
      unfold apartS allS
      rw [List.flatMap_cons, hp]
      rfl
    unfold formS
    rw [e]
    unfold compG fromG
    rw [List.foldl_cons, List.foldl_nil]
    by_cases h0 : classS c = 0
    · rw [step_new h0 (fun S h => by cases h)]; rfl
    · rw [step_add h0 (fun S h => by cases h)]; rfl
  · have hin : 44032 ≤ c ∧ c ≤ 55203 := Classical.byContradiction fun h => hs (splitS_out h)
    obtain ⟨n, rfl⟩ : ∃ n : Nat, c = 44032 + (n : Int) := ⟨(c - 44032).toNat, by omega⟩
    have hn : n ≤ 11171 := by omega
    have e : apartS false [44032 + (n : Int)] = partsN n := by
      unfold apartS allS
      rw [List.flatMap_cons, one_syll hn, List.flatMap_nil, List.append_nil]
      exact put_same (zero_ord fun x hx => class_letter (.inl (letters_zero hn x hx)))
    unfold formS
    rw [e]
    unfold compG fromG
    rw [fold_syll _ hn]
    rfl
end Go.Proofs.Ytimbchkoomjhkaa

/-! NormOk -/
namespace Go.Proofs.Ytimbchkoomjhkaa
open Go.RowKit

theorem apart_inI {k : Bool} {s : List Int} (hi : s.all inI = true) : (apartS k s).all inI = true :=
  List.all_eq_true.2 fun x hx => List.all_eq_true.1 (allS_inI hi) x (put_memG hx)
theorem apart_len (k : Bool) (s : List Int) : (apartS k s).length = (allS k s).length := put_len _
theorem form_len (k : Bool) (s : List Int) : (formS k s).length ≤ (allS k s).length := by
  have := comp_len (cl := classS) (two := twoS) (apartS k s)
  rw [apart_len] at this
  exact this
theorem form_inI {k : Bool} {s : List Int} (hi : s.all inI = true) : (formS k s).all inI = true :=
  List.all_eq_true.2 (comp_all (cl := classS) (R := fun x => inI x = true) (fun _ _ h => two_inI h) (apartS k s) (fun x hx => List.all_eq_true.1 (apart_inI hi) x hx))
/-- so many numbers that all calls answer -/
def FitsK (k : Bool) (s : List Int) : Prop := s.all inI = true ∧ s.length ≤ 1000000 ∧ (allS k s).length ≤ 1000000
theorem fits_small {k : Bool} {s : List Int} (hi : s.all inI = true) (h : s.length ≤ 400) : FitsK k s := ⟨hi, by omega, allS_small2 (by omega)⟩
theorem fits_of {k : Bool} {s t : List Int} (hi : t.all inI = true) (hl : t.length ≤ 1000000) (ha : apartS k t = apartS k s) (hs : (allS k s).length ≤ 1000000) : FitsK k t :=
  ⟨hi, hl, by rw [← apart_len, ha, apart_len]; exact hs⟩
theorem fits_form {k : Bool} {s : List Int} (h : FitsK k s) : FitsK k (formS k s) := fits_of (form_inI h.1) (Nat.le_trans (form_len k s) h.2.2) (apart_form h.1) h.2.2
theorem fits_apart {k : Bool} {s : List Int} (h : FitsK k s) : FitsK k (apartS k s) := fits_of (apart_inI h.1) (by rw [apart_len]; exact h.2.2) (apart_apart h.1) h.2.2
theorem fits_true_form {s : List Int} (h : FitsK false s) (h2 : FitsK true s) : FitsK true (formS false s) := fits_of (form_inI h.1) (Nat.le_trans (form_len false s) h.2.2) (apart_true_form h.1) h2.2.2
theorem fits_true_apart {s : List Int} (h : FitsK false s) (h2 : FitsK true s) : FitsK true (apartS false s) := fits_of (apart_inI h.1) (by rw [apart_len]; exact h.2.2) (apart_true_apart h.1) h2.2.2
theorem fits_false_form {s : List Int} (h : FitsK true s) : FitsK false (formS true s) := by
  refine ⟨form_inI h.1, Nat.le_trans (form_len true s) h.2.2, ?_⟩
  have e : apartS false (formS true s) = apartS true s := by
    show putG classS (allS false (compG classS twoS (apartS true s))) = _
    rw [comp_apart false (apart_ord true s), allS_plain (fun x hx => plain_down (apart_plain h.1 x hx))]
    exact put_same (apart_ord true s)
  rw [← apart_len, e, apart_len]
  exact h.2.2

def NApartOk : Prop := ∀ (k : Bool) (v : Value) (s : List Int) (w : World), Sl .i64 w v s → FitsK k s → Calls Try.prog 14 #[v, .bool k] w fun e w' => ∃ x, e = .returned x ∧ Own .i64 3 w.heap.size w' x (apartS k s) ∧ Below w.heap.size w w'
def NFormOk : Prop := ∀ (k : Bool) (v : Value) (s : List Int) (w : World), Sl .i64 w v s → FitsK k s → Calls Try.prog 16 #[v, .bool k] w fun e w' => ∃ x, e = .returned x ∧ Own .i64 3 w.heap.size w' x (formS k s) ∧ Below w.heap.size w w'
def NQuickOk : Prop := ∀ (k : Bool) (v : Value) (s : List Int) (w : World), Sl .i64 w v s → s.all inI = true → s.length ≤ 1000000 → Calls Try.prog 17 #[v, .bool k] w fun e w' => e = .returned (.bool (quickS k s)) ∧ Below w.heap.size w w'
def NSameOk : Prop := ∀ (k : Bool) (va vb : Value) (a b : List Int) (w : World), Sl .i64 w va a → Sl .i64 w vb b → FitsK k a → FitsK k b → Calls Try.prog 19 #[va, vb, .bool k] w fun e w' => e = .returned (.bool (eqL (formS k a) (formS k b))) ∧ Below w.heap.size w w'
set_option maxRecDepth 1000000 in
theorem w11_form : formS true [64257, 101, 769] = [102, 105, 233] := by decide +kernel
set_option maxRecDepth 1000000 in
theorem w11_yes : quickS true [65] = true := by decide +kernel
set_option maxRecDepth 1000000 in
theorem w11_no : quickS true [64257] = false := by decide +kernel
set_option maxRecDepth 1000000 in
theorem w11_same : eqL (formS false [8491]) (formS false [65, 778]) = true := by decide +kernel

set_option maxHeartbeats 4000000 in
theorem lawWakes11 (HF : NFormOk) (HQ : NQuickOk) (HS : NSameOk) (w : World) : Calls Try.prog 20 #[] w fun e w' => e = .returned (.bool true) ∧ Below w.heap.size w w' := by
  have H1 := hid (fun v w h => HF true v [64257, 101, 769] w h (fits_small (by decide) (by decide)))
  rw [w11_form] at H1
  have H2 := hid (fun v w h => HQ true v [65] w h (by decide) (by decide))
  rw [w11_yes] at H2
  have H3 := hid (fun v w h => HQ true v [64257] w h (by decide) (by decide))
  rw [w11_no] at H3
  have H4 := hid (fun va vb w h1 h2 => HS false va vb [8491] [65, 778] w h1 h2 (fits_small (by decide) (by decide)) (fits_small (by decide) (by decide)))
  rw [w11_same] at H4
  have HB0 := hid (Below.refl w.heap.size w)
  clear HF HQ HS
  go_enter Try.func20, Try.ntmps20
  go_wp2_with (first
    | (have _u := HB4; clear _u; go_at_call 19; refine (H4.out _ _ _ ((lit_sl (by first | simp | rfl) rfl rfl (by simp)).below (by (repeat (first | exact Below.refl _ _ | exact below_drewN _ | refine Below.drew ?_ | refine Below.alloc ?_ (by simp) _ | refine Below.setCell ?_ (by simp) _ | refine below_drewN' ?_ _)))) (lit_sl (by first | simp | rfl) rfl rfl (by simp))).mono ?_; rintro e w5 ⟨rfl, hb5⟩; replace hb5 := (((Below.refl w4.heap.size w4).alloc (Nat.le_refl _) _).alloc (by simp) _).trans (hb5.mono (by first | (simp; done) | (simp; omega))); have HB5 := hid (HB4.out.trans (hb5.mono HB4.out.size)); clear hb5)
    | (have _u := HB3; clear _u; go_at_call 17; refine (H3.out _ _ (lit_sl (by first | simp | rfl) rfl rfl (by simp))).mono ?_; rintro e w4 ⟨rfl, hb4⟩; replace hb4 := ((Below.refl w3.heap.size w3).alloc (Nat.le_refl _) _).trans (hb4.mono (by first | (simp; done) | (simp; omega))); have HB4 := hid (HB3.out.trans (hb4.mono HB3.out.size)); clear hb4)
    | (have _u := HB2; clear _u; go_at_call 17; refine (H2.out _ _ (lit_sl (by first | simp | rfl) rfl rfl (by simp))).mono ?_; rintro e w3 ⟨rfl, hb3⟩; replace hb3 := ((Below.refl w2.heap.size w2).alloc (Nat.le_refl _) _).trans (hb3.mono (by first | (simp; done) | (simp; omega))); have HB3 := hid (HB2.out.trans (hb3.mono HB2.out.size)); clear hb3)
    | (have _u := HB1; clear _u; go_at_call 13; refine (keepInts _ _ [102, 105, 233] [102, 105, 233] _ (S_f_1.out.below (by (repeat (first | exact Below.refl _ _ | exact below_drewN _ | refine Below.drew ?_ | refine Below.alloc ?_ (by simp) _ | refine Below.setCell ?_ (by simp) _ | refine below_drewN' ?_ _)))) (lit_sl (by first | simp | rfl) rfl rfl (by simp))).mono ?_; rw [eqL_self]; rintro e w2 ⟨rfl, n2, hw2⟩; have hb2 : Below w1.heap.size w1 w2 := (by rw [hw2]; exact below_drewN' ((Below.refl _ _).alloc (Nat.le_refl _) _) n2); clear hw2; have HB2 := hid (HB1.out.trans (hb2.mono HB1.out.size)); clear hb2)
    | (have _u := HB0; clear _u; go_at_call 16; refine (H1.out _ _ (lit_sl (by first | simp | rfl) rfl rfl (by simp))).mono ?_; rintro e w1 ⟨v1, rfl, ho1, hb1⟩; replace hb1 := ((Below.refl w.heap.size w).alloc (Nat.le_refl _) _).trans (hb1.mono (by first | (simp; done) | (simp; omega))); have S_f_1 := hid ho1.sl; clear ho1; have HB1 := hid (HB0.out.trans (hb1.mono HB0.out.size)); clear hb1))
  go_ret
  exact ⟨rfl, HB5.out⟩
end Go.Proofs.Ytimbchkoomjhkaa

/-! HangOk -/
namespace Go.Proofs.Ytimbchkoomjhkaa
open Go.RowKit

def I64n (c : Int) : Prop := -9223372036854775808 ≤ c ∧ c ≤ 9223372036854775807
def SplitOk : Prop := ∀ (c : Int) (w : World), I64n c → Calls Try.prog 24 #[.int .i64 c] w fun e w' => ∃ x, e = .returned x ∧ Sl .i64 w' x (splitS c) ∧ Below w.heap.size w w'
def JoinOk : Prop := ∀ (a b : Int) (w : World), I64n a → I64n b → Calls Try.prog 95 #[.int .i64 a, .int .i64 b] w fun e w' => e = .returned (.tuple #[.int .i64 (joinS a b).1, .bool (joinS a b).2]) ∧ Below w.heap.size w w'
theorem i64n {c : Int} (h0 : -1000000 ≤ c) (h1 : c ≤ 1000000000) : I64n c := ⟨by omega, by omega⟩

end Go.Proofs.Ytimbchkoomjhkaa
