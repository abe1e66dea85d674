/- Several texts in one: Ucd10, Ucd11, CsSpec, TokSpec, TokMath, Cs16a, CsOk. -/
import Derived.Test.YtkjhbfcblnbkfaaPk1
import Derived.Test.YtkjhbfcblnbkfaaPk2
import Derived.Test.YtkjhbfcblnbkfaaPk4
import Derived.Test.YtkjhbfcblnbkfaaPk6
import Derived.Test.YtkjhbfcblnbkfaaPk9
import Derived.Test.YtkjhbfcblnbkfaaPk11
/-! Ucd10 -/
namespace Go.Proofs.Ytkjhbfcblnbkfaa
open Go.RowKit

def mapS (l : List Mp) (c : Int) : List Int := if scalarB c then (fndM c l).1.t else []
theorem mapS_t {l : List Mp} {c : Int} (h : scalarB c = true) : (fndM c l).1.t = mapS l c := by unfold mapS; rw [h]; rfl
theorem mapS_f {l : List Mp} {c : Int} (h : scalarB c = false) : [] = mapS l c := by unfold mapS; rw [h]; rfl

theorem store_fn (P : Program) (f : Fn) (a : Addr) (m : Mode) (w : World) : (store a (.func f #[] #[]) m).run P w = stored P w a (.func f #[] #[]) m := run_store P w a _ m rfl
theorem OwnG.far6 {e base : Nat} {w : World} {v : Value} {l : List Rg} (h : OwnG e base w v l) {B : Nat} (hB : B < base) (j : Nat) (u : Value) : OwnG e base (w.setCell ⟨B, j, none⟩ u) v l := by
  obtain ⟨h1, h2⟩ := h
  refine ⟨h1, ?_⟩
  rcases h2 with h2 | ⟨g, cap, cur, hv, hg, hh, r⟩
  · exact .inl h2
  · refine .inr ⟨g, cap, cur, hv, hg, ?_, r⟩
    rw [Below.heap_setCell _ _ _ _ (fun e => by simp only at e; omega)]
    exact hh
/-- the canonical decomposition that a row tells -/
def rowS (r : Rg × Bool) : List Int := if r.2 then (if r.1.v == 0 then [r.1.t] else [r.1.t, r.1.v]) else []
def canonS (c : Int) : List Int := if scalarB c then rowS (fndS (fun r => r.f == c) tabCanon) else []
theorem canonS_t {c : Int} (h : scalarB c = true) : rowS (fndS (fun r => r.f == c) tabCanon) = canonS c := by unfold canonS; rw [h]; rfl
theorem canonS_f {c : Int} (h : scalarB c = false) : [] = canonS c := by unfold canonS; rw [h]; rfl

end Go.Proofs.Ytkjhbfcblnbkfaa

/-! Ucd11 -/
namespace Go.Proofs.Ytkjhbfcblnbkfaa
open Go.RowKit
open Go.Great (wp_anyFrame)

def exclL : List Int := [836, 2392, 2393, 64285, 64298, 64299]
/-- what else is owned stays when a row of another type turns -/
theorem ownG_row {w w' : World} {base e size n : Nat} {v : Value} {cs : List Value} (h : w.ownsRow base e size v n cs) {e2 base2 : Nat} {u : Value} {l : List Rg} (ho : OwnG e2 base2 w u l) (ht : e2 ≠ e) (hg : w.grownBy w' v.ownBlock) : OwnG e2 base2 w' u l := by
  refine World.ownsRow.kept ho hg ?_
  cases hb : u.ownBlock with
  | none => exact .inl rfl
  | some c =>
    refine .inr fun hrow => ?_
    rcases h.2 with ⟨rfl, _⟩ | ⟨g, cap, cur, rfl, _, hg1, _⟩
    · simp [Value.ownBlock] at hrow
    · rcases ho.2 with ⟨rfl, _⟩ | ⟨g2, cap2, cur2, rfl, _, hg2, _⟩
      · simp [Value.ownBlock] at hb
      · simp [Value.ownBlock] at hrow hb
        subst hrow hb
        rw [hg1] at hg2
        simp at hg2
        exact ht hg2.2.symm
def tabPair : List Rg := tabCanon.filter fun r => !delS exclL tabClasses r
theorem canon_pos : 0 < tabCanon.length := by
  unfold tabCanon
  rw [List.length_append]
  have : 0 < canonHead.length := by decide
  omega
theorem box_other {t : TypeId} {cs : List Value} {B g : Nat} {w w' : World} (h : Box t cs B w) (hg : w.grownBy w' (some g)) (hn : B ≠ g) : Box t cs B w' := (hg.block B h.lt (fun e => hn (by injection e))).trans h
/-- what two scalars compose, and whether they do -/
def pairS (a b : Int) : Int × Bool := ((fndS (fun r => r.t == a && r.v == b) tabPair).1.f, (fndS (fun r => r.t == a && r.v == b) tabPair).2)
end Go.Proofs.Ytkjhbfcblnbkfaa

/-! CsSpec -/
namespace Go.Proofs.Ytkjhbfcblnbkfaa

/-- the first one of a list of numbers -/
def fndI (p : Int → Bool) : List Int → Int × Bool
  | [] => (0, false)
  | x :: l => if p x then (x, true) else fndI p l
theorem fndI_drop {p : Int → Bool} : ∀ {l : List Int} {k : Nat}, k ≤ l.length → (∀ i, i < k → p (l.getD i 0) = false) → fndI p l = fndI p (l.drop k)
  | _, 0, _, _ => rfl
  | [], k + 1, h, _ => by simp at h
  | x :: l, k + 1, h, ha => by
    have h0 := ha 0 (by omega)
    simp only [List.getD_cons_zero] at h0
    rw [fndI, h0, List.drop_succ_cons]
    exact fndI_drop (by simpa using h) fun i hi => by simpa using ha (i + 1) (by omega)
theorem fndI_hit {p : Int → Bool} {l : List Int} {k : Nat} (h : k < l.length) (ha : ∀ i, i < k → p (l.getD i 0) = false) (hk : p (l.getD k 0) = true) : fndI p l = (l.getD k 0, true) := by
  rw [fndI_drop (by omega) ha, List.drop_eq_getElem_cons h, fndI]
  have e : l.getD k 0 = l[k] := by rw [List.getD_eq_getElem?_getD, List.getElem?_eq_getElem h]; rfl
  rw [e] at hk ⊢
  rw [if_pos hk]
theorem fndI_none {p : Int → Bool} {l : List Int} (ha : ∀ i, i < l.length → p (l.getD i 0) = false) : fndI p l = (0, false) := by
  rw [fndI_drop (Nat.le_refl _) ha, List.drop_length]
  rfl
/-- where the first one stands; -1: there is none -/
def ixS (p : Rg → Bool) : List Rg → Int
  | [] => -1
  | r :: l => if p r then 0 else if ixS p l < 0 then -1 else ixS p l + 1
theorem ixS_drop {p : Rg → Bool} : ∀ {l : List Rg} {k : Nat}, k ≤ l.length → (∀ i, i < k → p (l.getD i noRg) = false) → ixS p l = if ixS p (l.drop k) < 0 then -1 else ixS p (l.drop k) + k
  | [], 0, _, _ => by simp [ixS]
  | r :: l, 0, _, _ => by
    simp only [List.drop_zero]
    unfold ixS
    by_cases h : p r = true
    · rw [if_pos h]; simp
    · rw [if_neg h]
      by_cases h2 : ixS p l < 0
      · rw [if_pos h2]; simp
      · rw [if_neg h2, if_neg (by omega)]; omega
  | [], k + 1, h, _ => by simp at h
  | r :: l, k + 1, h, ha => by
    have h0 := ha 0 (by omega)
    simp only [List.getD_cons_zero] at h0
    have ih := ixS_drop (p := p) (l := l) (k := k) (by simpa using h) fun i hi => by simpa using ha (i + 1) (by omega)
    rw [ixS, h0, List.drop_succ_cons, ih]
    simp only [Bool.false_eq_true, if_false]
    by_cases h2 : ixS p (l.drop k) < 0
    · rw [if_pos h2]; simp; omega
    · rw [if_neg h2, if_neg (by omega)]; omega
theorem ixS_hit {p : Rg → Bool} {l : List Rg} {k : Nat} (h : k < l.length) (ha : ∀ i, i < k → p (l.getD i noRg) = false) (hk : p (l.getD k noRg) = true) : ixS p l = k := by
  rw [ixS_drop (by omega) ha, List.drop_eq_getElem_cons h, ixS]
  have e : l.getD k noRg = l[k] := by rw [List.getD_eq_getElem?_getD, List.getElem?_eq_getElem h]; rfl
  rw [e] at hk
  rw [if_pos hk]
  simp
theorem ixS_none {p : Rg → Bool} {l : List Rg} (ha : ∀ i, i < l.length → p (l.getD i noRg) = false) : ixS p l = -1 := by
  rw [ixS_drop (Nat.le_refl _) ha, List.drop_length]
  rfl
theorem first_or {p : Rg → Bool} : ∀ (l : List Rg), (∃ k, k < l.length ∧ (∀ i, i < k → p (l.getD i noRg) = false) ∧ p (l.getD k noRg) = true) ∨ ∀ i, i < l.length → p (l.getD i noRg) = false
  | [] => .inr fun i hi => by simp at hi
  | r :: l => by
    by_cases h : p r = true
    · exact .inl ⟨0, by simp, fun i hi => by omega, by simpa using h⟩
    · rcases first_or (p := p) l with ⟨k, h1, h2, h3⟩ | h2
      · refine .inl ⟨k + 1, by simpa using h1, fun i hi => ?_, by simpa using h3⟩
        cases i with
        | zero => simpa using h
        | succ i => simpa using h2 i (by omega)
      · refine .inr fun i hi => ?_
        cases i with
        | zero => simpa using h
        | succ i => simpa using h2 i (by simpa using hi)
def getS16 (set place : Int) : Int × Bool := ((fndS (fun r => r.f == set && r.t == place) tabCodes).1.v, (fndS (fun r => r.f == set && r.t == place) tabCodes).2)
def findS16 (set c : Int) : Int × Bool := ((fndS (fun r => r.f == set && r.v == c) tabCodes).1.t, (fndS (fun r => r.f == set && r.v == c) tabCodes).2)
def finB (final : Int) (wide : Bool) (s : Int) : Bool := final != 0 && (finalS s == final && (s == 87) == wide)
def byFinS (final : Int) (wide : Bool) : Int × Bool := fndI (finB final wide) (tabSets ++ [103])
def markS (place : Int) : Int × Int × Bool := ((fndS (fun r => r.f == place) tabAccents).1.t, (fndS (fun r => r.f == place) tabAccents).1.v, (fndS (fun r => r.f == place) tabAccents).2)
def letB (c : Int) : Bool := decide ((65 ≤ c ∧ c ≤ 90) ∨ (97 ≤ c ∧ c ≤ 122))
def accTwo (c : Int) (l : List Int) : Int × Int × Bool :=
  if l.length = 2 ∧ letB (l.getD 0 0) = true then
    (if (pairS (l.getD 0 0) (l.getD 1 0)).2 && (pairS (l.getD 0 0) (l.getD 1 0)).1 == c then
      (if (fndS (fun r => r.t == l.getD 1 0) tabAccents).2 then ((fndS (fun r => r.t == l.getD 1 0) tabAccents).1.f, l.getD 0 0, true) else (0, 0, false)) else (0, 0, false)) else (0, 0, false)
def accS (c : Int) : Int × Int × Bool :=
  if (fndS (fun r => r.v == c) tabAccents).2 then ((fndS (fun r => r.v == c) tabAccents).1.f, 32, true) else accTwo c (canonS c)
end Go.Proofs.Ytkjhbfcblnbkfaa

/-! TokSpec -/
namespace Go.Proofs.Ytkjhbfcblnbkfaa

/-- the state of a reader: the four designated sets; which one is on the left, which one on the right -/
structure Rd where
  g : List Int
  left : Nat
  right : Nat
def rd0 : Rd := ⟨[102, 0, 103, 0], 0, 2⟩
/-- what is subtracted from a byte of this side -/
def sdS (c : Int) : Int := if 128 ≤ c then 128 else 0
/-- a character of a set: its token and how many bytes it has, or an error -/
def plS (set : Int) : List Int → ((Int × Int) × Nat) ⊕ Int
  | [] => .inr 2
  | c :: r =>
    if 33 ≤ c - sdS c ∧ c - sdS c ≤ 126 then
      (if set = 0 then .inr 12
      else if set ≠ 87 then .inl ((set, c - sdS c), 1)
      else match r with
        | [] => .inr 2
        | d :: _ => if 33 ≤ d - sdS c ∧ d - sdS c ≤ 126 then .inl ((set, 256 * (c - sdS c) + (d - sdS c)), 2) else .inr 11)
    else .inr 11
/-- what stands behind 1B: the state then, how many bytes; or an error -/
def esS (st : Rd) : List Int → (Rd × Nat) ⊕ Int
  | [] => .inr 2
  | c :: r =>
    if 40 ≤ c ∧ c ≤ 43 then
      (match r with
      | [] => .inr 2
      | f :: _ => if (byFinS f false).2 then .inl (⟨st.g.set (c - 40).toNat (byFinS f false).1, st.left, st.right⟩, 2) else .inr 12)
    else if c = 36 then
      (match r with
      | [] => .inr 2
      | h :: q => if 40 ≤ h ∧ h ≤ 43 then
          (match q with
          | [] => .inr 2
          | f :: _ => if (byFinS f true).2 then .inl (⟨st.g.set (h - 40).toNat (byFinS f true).1, st.left, st.right⟩, 3) else .inr 12)
        else .inr 11)
    else if c = 33 ∨ c = 34 then
      (match r with
      | [] => .inr 2
      | h :: _ => if (c = 33 ∧ h = 69) ∨ (c = 34 ∧ h = 72) then .inl (st, 2) else .inr 11)
    else if c = 110 ∨ c = 111 then .inl (⟨st.g, (c - 108).toNat, st.right⟩, 1)
    else if 124 ≤ c ∧ c ≤ 126 then .inl (⟨st.g, st.left, (127 - c).toNat⟩, 1)
    else .inr 11
/-- one token, shift or escape sequence: the tokens, how many bytes, the state then; or an error -/
def tkS (st : Rd) : List Int → (List (Int × Int) × Nat × Rd) ⊕ Int
  | [] => .inr 2
  | c :: r =>
    if c = 32 ∨ c = 8 ∨ c = 10 ∨ c = 12 ∨ c = 13 then .inl ([(0, c)], 1, st)
    else if c = 14 ∨ c = 15 then .inl ([], 1, ⟨st.g, (15 - c).toNat, st.right⟩)
    else if c = 27 then (match esS st r with | .inl (s, n) => .inl ([], n + 1, s) | .inr e => .inr e)
    else if c = 25 ∨ c = 29 then (match plS (st.g.getD (if c = 29 then 3 else 2) 0) r with | .inl (t, n) => .inl ([t], n + 1, st) | .inr e => .inr e)
    else if (33 ≤ c ∧ c ≤ 126) ∨ (161 ≤ c ∧ c ≤ 254) then (match plS (st.g.getD (if 126 < c then st.right else st.left) 0) (c :: r) with | .inl (t, n) => .inl ([t], n, st) | .inr e => .inr e)
    else .inr 11
/-- so many steps at most: the tokens and the state then; or where it fails and how -/
def tkF : Nat → Rd → List Int → (List (Int × Int) × Rd) ⊕ (Nat × Int)
  | 0, st, _ => .inl ([], st)
  | _ + 1, st, [] => .inl ([], st)
  | f + 1, st, c :: r =>
    match tkS st (c :: r) with
    | .inr e => .inr (0, e)
    | .inl (ts, n, s) =>
      match tkF f s ((c :: r).drop n) with
      | .inl (l, z) => .inl (ts ++ l, z)
      | .inr (i, e) => .inr (n + i, e)
/-- the tokens of bytes, or where they fail and how -/
def tokS (b : List Int) : List (Int × Int) ⊕ (Nat × Int) :=
  match tkF b.length rd0 b with
  | .inl (l, _) => .inl l
  | .inr x => .inr x

theorem pl_ext {set : Int} {b : List Int} (m : List Int) (h : plS set b ≠ .inr 2) : plS set (b ++ m) = plS set b := by
  match b with
  | [] => exact absurd rfl h
  | [c] =>
    revert h
    simp only [plS, List.cons_append, List.nil_append]
    repeat' split
    all_goals (intro h; first | rfl | exact absurd rfl h)
  | c :: d :: r => simp only [plS, List.cons_append]
theorem pl_ok {set : Int} {b : List Int} {t : Int × Int} {n : Nat} (h : plS set b = .inl (t, n)) : 0 < n ∧ n ≤ b.length := by
  match b with
  | [] => cases h
  | [c] =>
    revert h
    simp only [plS]
    repeat' split
    all_goals (intro h; first | (cases h; done) | (injection h with h; injection h with _ h; subst h; simp))
  | c :: d :: r =>
    revert h
    simp only [plS]
    repeat' split
    all_goals (intro h; first | (cases h; done) | (injection h with h; injection h with _ h; subst h; simp))
theorem pl_take {set : Int} {b : List Int} {t : Int × Int} {n k : Nat} (h : plS set b = .inl (t, n)) (hk : n ≤ k) : plS set (b.take k) = .inl (t, n) := by
  have hn := pl_ok h
  match b, k with
  | [], _ => cases h
  | _, 0 => omega
  | [c], k + 1 => simpa using h
  | c :: d :: r, 1 =>
    revert h
    simp only [plS, List.take_succ_cons, List.take_zero]
    repeat' split
    all_goals (intro h; first | (cases h; done) | exact h | (injection h with h; injection h with _ h; omega))
  | c :: d :: r, k + 2 =>
    revert h
    simp only [plS, List.take_succ_cons]
    exact id
theorem es_ext {st : Rd} {b : List Int} (m : List Int) (h : esS st b ≠ .inr 2) : esS st (b ++ m) = esS st b := by
  match b with
  | [] => exact absurd rfl h
  | [c] =>
    revert h
    simp only [esS, List.cons_append, List.nil_append]
    repeat' split
    all_goals (intro h; first | rfl | exact absurd rfl h)
  | [c, d] =>
    revert h
    simp only [esS, List.cons_append, List.nil_append]
    repeat' split
    all_goals (intro h; first | rfl | exact absurd rfl h)
  | c :: d :: e :: r => simp only [esS, List.cons_append]
theorem es_ok {st s : Rd} {b : List Int} {n : Nat} (h : esS st b = .inl (s, n)) : 0 < n ∧ n ≤ b.length := by
  match b with
  | [] => cases h
  | [c] =>
    revert h
    simp only [esS]
    repeat' split
    all_goals (intro h; first | (cases h; done) | (injection h with h; injection h with _ h; subst h; simp))
  | [c, d] =>
    revert h
    simp only [esS]
    repeat' split
    all_goals (intro h; first | (cases h; done) | (injection h with h; injection h with _ h; subst h; simp))
  | c :: d :: e :: r =>
    revert h
    simp only [esS]
    repeat' split
    all_goals (intro h; first | (cases h; done) | (injection h with h; injection h with _ h; subst h; simp))
theorem es_take {st s : Rd} {b : List Int} {n k : Nat} (h : esS st b = .inl (s, n)) (hk : n ≤ k) : esS st (b.take k) = .inl (s, n) := by
  have hn := es_ok h
  by_cases hkb : b.length ≤ k
  · rwa [List.take_of_length_le hkb]
  · have e : esS st (b.take k ++ b.drop k) = .inl (s, n) := by rwa [List.take_append_drop]
    match b, k with
    | [], _ => cases h
    | _, 0 => omega
    | [c], _ + 1 => simp at hkb
    | [c, d], 1 =>
      revert h
      simp only [esS, List.take_succ_cons, List.take_zero]
      repeat' split
      all_goals (intro h; first | (cases h; done) | exact h | (injection h with h; injection h with _ h; omega))
    | c :: d :: f :: r, 1 =>
      revert h
      simp only [esS, List.take_succ_cons, List.take_zero]
      repeat' split
      all_goals (intro h; first | (cases h; done) | exact h | (injection h with h; injection h with _ h; omega))
    | [c, d], k + 2 => simp at hkb
    | c :: d :: f :: r, 2 =>
      revert h
      simp only [esS, List.take_succ_cons, List.take_zero]
      repeat' split
      all_goals (intro h; first | (cases h; done) | exact h | (injection h with h; injection h with _ h; omega))
    | c :: d :: f :: r, k + 3 =>
      revert h
      simp only [esS, List.take_succ_cons]
      exact id
end Go.Proofs.Ytkjhbfcblnbkfaa

/-! TokMath -/
namespace Go.Proofs.Ytkjhbfcblnbkfaa

theorem tk_ext {st : Rd} {b : List Int} (m : List Int) (h : tkS st b ≠ .inr 2) : tkS st (b ++ m) = tkS st b := by
  match b with
  | [] => exact absurd rfl h
  | c :: r =>
    revert h
    simp only [tkS, List.cons_append]
    split
    · intro _; rfl
    split
    · intro _; rfl
    split
    · intro h
      have : esS st r ≠ .inr 2 := fun e => by rw [e] at h; exact h rfl
      rw [es_ext m this]
    split
    · intro h
      have : plS (st.g.getD (if c = 29 then 3 else 2) 0) r ≠ .inr 2 := fun e => by rw [e] at h; exact h rfl
      rw [pl_ext m this]
    split
    · intro h
      have : plS (st.g.getD (if 126 < c then st.right else st.left) 0) (c :: r) ≠ .inr 2 := fun e => by rw [e] at h; exact h rfl
      have e := pl_ext m this
      rw [List.cons_append] at e
      rw [e]
    · intro _; rfl
theorem tk_ok {st s : Rd} {b : List Int} {ts : List (Int × Int)} {n : Nat} (h : tkS st b = .inl (ts, n, s)) : 0 < n ∧ n ≤ b.length := by
  match b with
  | [] => cases h
  | c :: r =>
    revert h
    simp only [tkS, List.length_cons]
    split
    · intro h; cases h; omega
    split
    · intro h; cases h; omega
    split
    · cases he : esS st r with
      | inl x => obtain ⟨s', n'⟩ := x; have := es_ok he; intro h; cases h; omega
      | inr e => intro h; cases h
    split
    · cases he : plS (st.g.getD (if c = 29 then 3 else 2) 0) r with
      | inl x => obtain ⟨t, n'⟩ := x; have := pl_ok he; intro h; cases h; omega
      | inr e => intro h; cases h
    split
    · cases he : plS (st.g.getD (if 126 < c then st.right else st.left) 0) (c :: r) with
      | inl x => obtain ⟨t, n'⟩ := x; have := pl_ok he; intro h; cases h; simpa using this
      | inr e => intro h; cases h
    · intro h; cases h
theorem tk_take {st s : Rd} {b : List Int} {ts : List (Int × Int)} {n k : Nat} (h : tkS st b = .inl (ts, n, s)) (hk : n ≤ k) : tkS st (b.take k) = .inl (ts, n, s) := by
  have hn := tk_ok h
  match b, k with
  | [], _ => cases h
  | _, 0 => omega
  | c :: r, k + 1 =>
    rw [List.take_succ_cons]
    revert h
    simp only [tkS]
    split
    · exact id
    split
    · exact id
    split
    · cases he : esS st r with
      | inl x =>
        obtain ⟨s', n'⟩ := x
        intro h
        injection h with h
        simp only [Prod.mk.injEq] at h
        rw [es_take he (show n' ≤ k by omega)]
        simp only [h]
      | inr e => intro h; cases h
    split
    · cases he : plS (st.g.getD (if c = 29 then 3 else 2) 0) r with
      | inl x =>
        obtain ⟨t, n'⟩ := x
        intro h
        injection h with h
        simp only [Prod.mk.injEq] at h
        rw [pl_take he (show n' ≤ k by omega)]
        simp only [h]
      | inr e => intro h; cases h
    split
    · cases he : plS (st.g.getD (if 126 < c then st.right else st.left) 0) (c :: r) with
      | inl x =>
        obtain ⟨t, n'⟩ := x
        intro h
        injection h with h
        simp only [Prod.mk.injEq] at h
        have := pl_take he (show n' ≤ k + 1 by omega)
        rw [List.take_succ_cons] at this
        rw [this]
        simp only [h]
      | inr e => intro h; cases h
    · intro h; cases h
/-- cut short within it -/
theorem tk_short {st s : Rd} {b : List Int} {ts : List (Int × Int)} {n k : Nat} (h : tkS st b = .inl (ts, n, s)) (hk : k < n) : tkS st (b.take k) = .inr 2 := by
  apply Classical.byContradiction
  intro hne
  have hn := tk_ok h
  have e := tk_ext (b.drop k) hne
  rw [List.take_append_drop, h] at e
  have := (tk_ok e.symm).2
  rw [List.length_take] at this
  omega
theorem tkF_nil (f : Nat) (st : Rd) : tkF f st [] = .inl ([], st) := by cases f <;> rfl
theorem tkF_step {f : Nat} {st : Rd} {b : List Int} (hb : b ≠ []) : tkF (f + 1) st b =
    match tkS st b with
    | .inr e => .inr (0, e)
    | .inl (ts, n, s) =>
      match tkF f s (b.drop n) with
      | .inl (l, z) => .inl (ts ++ l, z)
      | .inr (i, e) => .inr (n + i, e) := by
  match b with
  | [] => exact absurd rfl hb
  | c :: r => rfl
/-- more steps than bytes change nothing -/
theorem tkF_fuel : ∀ (f f' : Nat) (st : Rd) (b : List Int), b.length ≤ f → b.length ≤ f' → tkF f st b = tkF f' st b
  | 0, f', st, b, h, _ => by
    obtain rfl : b = [] := List.eq_nil_of_length_eq_zero (by omega)
    rw [tkF_nil, tkF_nil]
  | f + 1, 0, st, b, _, h => by
    obtain rfl : b = [] := List.eq_nil_of_length_eq_zero (by omega)
    rw [tkF_nil, tkF_nil]
  | f + 1, f' + 1, st, b, h, h' => by
    by_cases hb : b = []
    · rw [hb, tkF_nil, tkF_nil]
    · rw [tkF_step hb, tkF_step hb]
      cases ht : tkS st b with
      | inr e => rfl
      | inl x =>
        obtain ⟨ts, n, s⟩ := x
        have hn := tk_ok ht
        simp only
        rw [tkF_fuel f f' s (b.drop n) (by rw [List.length_drop]; omega) (by rw [List.length_drop]; omega)]
/-- what is read is read ahead of anything -/
theorem tkF_app : ∀ (f : Nat) (st s : Rd) (a b : List Int) (l : List (Int × Int)), a.length ≤ f → tkF f st a = .inl (l, s) → ∀ f', (a ++ b).length ≤ f' →
    tkF f' st (a ++ b) = match tkF f' s b with | .inl (m, z) => .inl (l ++ m, z) | .inr (i, e) => .inr (a.length + i, e)
  | 0, st, s, a, b, l, ha, h, f', hf => by
    obtain rfl : a = [] := List.eq_nil_of_length_eq_zero (by omega)
    rw [tkF_nil] at h
    cases h
    rw [List.nil_append]
    cases tkF f' st b with
    | inl x => rfl
    | inr x => obtain ⟨i, e⟩ := x; simp
  | f + 1, st, s, a, b, l, ha, h, f', hf => by
    by_cases hb : a = []
    · subst hb
      rw [tkF_nil] at h
      cases h
      rw [List.nil_append]
      cases tkF f' st b with
      | inl x => rfl
      | inr x => obtain ⟨i, e⟩ := x; simp
    · rw [tkF_step hb] at h
      cases ht : tkS st a with
      | inr e => rw [ht] at h; cases h
      | inl x =>
        obtain ⟨ts, n, z⟩ := x
        rw [ht] at h
        simp only at h
        have hn := tk_ok ht
        cases hr : tkF f z (a.drop n) with
        | inr x => rw [hr] at h; cases h
        | inl x =>
          obtain ⟨l', z'⟩ := x
          rw [hr] at h
          injection h with h
          simp only [Prod.mk.injEq] at h
          obtain ⟨rfl, rfl⟩ := h
          rw [List.length_append] at hf
          obtain ⟨g, rfl⟩ : ∃ g, f' = g + 1 := ⟨f' - 1, by omega⟩
          have hab : a ++ b ≠ [] := by simp [hb]
          rw [tkF_step hab, tk_ext b (by rw [ht]; simp), ht]
          simp only
          have hd : (a ++ b).drop n = a.drop n ++ b := List.drop_append_of_le_length hn.2
          rw [hd, tkF_app f z z' (a.drop n) b l' (by rw [List.length_drop]; omega) hr g (by rw [List.length_append, List.length_drop]; omega), tkF_fuel (g + 1) g z' b (by omega) (by omega)]
          cases tkF g z' b with
          | inl x => obtain ⟨m, y⟩ := x; simp [List.append_assoc]
          | inr x => obtain ⟨i, e⟩ := x; simp only [List.length_drop, Sum.inr.injEq, Prod.mk.injEq, and_true]; omega
/-- a part of what is read is read as far, or is short -/
theorem tkF_take : ∀ (f : Nat) (st s : Rd) (b : List Int) (l : List (Int × Int)) (k : Nat), b.length ≤ f → tkF f st b = .inl (l, s) → ∀ f', k ≤ f' → k ≤ b.length →
    (∃ m z, tkF f' st (b.take k) = .inl (m, z) ∧ m.length ≤ l.length ∧ l.take m.length = m) ∨ ∃ i, tkF f' st (b.take k) = .inr (i, 2) ∧ i < k
  | 0, st, s, b, l, k, hb, h, f', hf, hk => by
    obtain rfl : b = [] := List.eq_nil_of_length_eq_zero (by omega)
    rw [List.take_nil, tkF_nil]
    exact .inl ⟨[], st, rfl, by simp, by simp⟩
  | f + 1, st, s, b, l, k, hb, h, f', hf, hk => by
    by_cases hk0 : k = 0
    · subst hk0
      rw [List.take_zero, tkF_nil]
      exact .inl ⟨[], st, rfl, by simp, by simp⟩
    · have hbn : b ≠ [] := fun e => by rw [e] at hk; simp at hk; omega
      have htn : b.take k ≠ [] := fun e => by have := congrArg List.length e; rw [List.length_take, List.length_nil] at this; omega
      rw [tkF_step hbn] at h
      obtain ⟨g, rfl⟩ : ∃ g, f' = g + 1 := ⟨f' - 1, by omega⟩
      cases ht : tkS st b with
      | inr e => rw [ht] at h; cases h
      | inl x =>
        obtain ⟨ts, n, z⟩ := x
        rw [ht] at h
        simp only at h
        have hn := tk_ok ht
        cases hr : tkF f z (b.drop n) with
        | inr x => rw [hr] at h; cases h
        | inl x =>
          obtain ⟨l', z'⟩ := x
          rw [hr] at h
          injection h with h
          simp only [Prod.mk.injEq] at h
          obtain ⟨rfl, rfl⟩ := h
          rw [tkF_step htn]
          by_cases hkn : n ≤ k
          · rw [tk_take ht hkn]
            simp only
            have hd : (b.take k).drop n = (b.drop n).take (k - n) := List.drop_take
            rw [hd]
            rcases tkF_take f z z' (b.drop n) l' (k - n) (by rw [List.length_drop]; omega) hr g (by omega) (by rw [List.length_drop]; omega) with ⟨m, y, h1, h2, h3⟩ | ⟨i, h1, h2⟩
            · rw [h1]
              refine .inl ⟨ts ++ m, y, rfl, by simp; omega, ?_⟩
              rw [List.length_append, List.take_append, List.take_of_length_le (by omega), Nat.add_sub_cancel_left, h3]
            · rw [h1]
              exact .inr ⟨n + i, rfl, by omega⟩
          · rw [tk_short ht (by omega)]
            exact .inr ⟨0, rfl, by omega⟩
/-- what is refused is refused whatever stands behind -/
theorem tkF_more : ∀ (f : Nat) (st : Rd) (b m : List Int) (i : Nat) (e : Int), b.length ≤ f → tkF f st b = .inr (i, e) → e ≠ 2 → ∀ f', (b ++ m).length ≤ f' → tkF f' st (b ++ m) = .inr (i, e)
  | 0, st, b, m, i, e, hb, h, _, _, _ => by
    obtain rfl : b = [] := List.eq_nil_of_length_eq_zero (by omega)
    rw [tkF_nil] at h
    cases h
  | f + 1, st, b, m, i, e, hb, h, he, f', hf => by
    by_cases hbn : b = []
    · rw [hbn, tkF_nil] at h
      cases h
    · have hab : b ++ m ≠ [] := by simp [hbn]
      rw [List.length_append] at hf
      obtain ⟨g, rfl⟩ : ∃ g, f' = g + 1 := ⟨f' - 1, by have := List.length_pos_iff.2 hbn; omega⟩
      rw [tkF_step hbn] at h
      rw [tkF_step hab]
      cases ht : tkS st b with
      | inr e' =>
        rw [ht] at h
        injection h with h
        simp only [Prod.mk.injEq] at h
        obtain ⟨rfl, rfl⟩ := h
        rw [tk_ext m (by rw [ht]; intro e; injection e with e; exact he e), ht]
      | inl x =>
        obtain ⟨ts, n, z⟩ := x
        rw [ht] at h
        simp only at h
        have hn := tk_ok ht
        rw [tk_ext m (by rw [ht]; simp), ht]
        simp only
        cases hr : tkF f z (b.drop n) with
        | inl x => obtain ⟨l', z'⟩ := x; rw [hr] at h; cases h
        | inr x =>
          obtain ⟨i', e'⟩ := x
          rw [hr] at h
          injection h with h
          simp only [Prod.mk.injEq] at h
          obtain ⟨rfl, rfl⟩ := h
          have hd : (b ++ m).drop n = b.drop n ++ m := List.drop_append_of_le_length hn.2
          rw [hd, tkF_more f z (b.drop n) m i' e' (by rw [List.length_drop]; omega) hr he g (by rw [List.length_append, List.length_drop]; omega)]
theorem tkF_at : ∀ (f : Nat) (st : Rd) (b : List Int) (i : Nat) (e : Int), b.length ≤ f → tkF f st b = .inr (i, e) → i < b.length
  | 0, st, b, i, e, hb, h => by
    obtain rfl : b = [] := List.eq_nil_of_length_eq_zero (by omega)
    rw [tkF_nil] at h
    cases h
  | f + 1, st, b, i, e, hb, h => by
    by_cases hbn : b = []
    · rw [hbn, tkF_nil] at h
      cases h
    · have h0 := List.length_pos_iff.2 hbn
      rw [tkF_step hbn] at h
      cases ht : tkS st b with
      | inr e' =>
        rw [ht] at h
        injection h with h
        simp only [Prod.mk.injEq] at h
        omega
      | inl x =>
        obtain ⟨ts, n, z⟩ := x
        rw [ht] at h
        simp only at h
        have hn := tk_ok ht
        cases hr : tkF f z (b.drop n) with
        | inl x => obtain ⟨l', z'⟩ := x; rw [hr] at h; cases h
        | inr x =>
          obtain ⟨i', e'⟩ := x
          rw [hr] at h
          injection h with h
          simp only [Prod.mk.injEq] at h
          have := tkF_at f z (b.drop n) i' e' (by rw [List.length_drop]; omega) hr
          rw [List.length_drop] at this
          omega
end Go.Proofs.Ytkjhbfcblnbkfaa

/-! Cs16a -/
namespace Go.Proofs.Ytkjhbfcblnbkfaa
open Go.RowKit

theorem csWide (s : Int) (w : World) : Calls Try.prog 8 #[.int .i64 s] w fun e w' => e = .returned (.bool (s == 87)) ∧ w = w' := by
  go_enter Try.func8, Try.ntmps8
  go_wp2_with (fail)
  go_ret
  exact ⟨rfl, rfl⟩
theorem csNmdRule (B1 B2 : Nat) (fin : Int) (wd : Bool) (x : Int) (w : World) (h1 : w.cell? ⟨B1, 0, none⟩ = some (.int .i64 fin)) (h2 : w.cell? ⟨B2, 0, none⟩ = some (.bool wd)) :
    Calls Try.prog 25 #[.int .i64 x, .pointer (some ⟨B1, 0, none⟩), .pointer (some ⟨B2, 0, none⟩)] w fun e w' => e = .returned (.bool (finalS x == fin && (x == 87) == wd)) ∧ Below w.heap.size w w' := by
  obtain ⟨z, hz⟩ : ∃ z, z = finalS x := ⟨_, rfl⟩
  obtain ⟨z2, hz2⟩ : ∃ z2, z2 = (x == 87) := ⟨_, rfl⟩
  have HF := hid (fun w => apiFinal x w)
  have HW := hid (fun w => csWide x w)
  rw [← hz] at HF ⊢
  rw [← hz2] at HW ⊢
  clear hz hz2
  obtain ⟨q, hq⟩ : ∃ q, q = (z == fin) := ⟨_, rfl⟩
  rw [← hq]
  replace hq := hq.symm
  have HQ := hid hq
  cases q with
  | true =>
    go_enter Try.func25, Try.ntmps25
    go_wp2_with (fail)
    go_quiet (first | (go_at_call 13; exact quiet_same0 (HF.out _)) | (go_at_call 13; exact quiet_same (HF.out _)) | (go_at_call 8; exact quiet_same0 (HW.out _)) | (go_at_call 8; exact quiet_same (HW.out _)))
    go_wp2
    go_ret
    exact ⟨by cases z2 <;> cases wd <;> rfl, by (repeat (first | exact Below.refl _ _ | exact below_drewN _ | refine Below.drew ?_ | refine Below.alloc ?_ (by simp) _ | refine Below.setCell ?_ (by simp) _ | refine below_drewN' ?_ _))⟩
  | false =>
    go_enter Try.func25, Try.ntmps25
    go_wp2_with (fail)
    go_quiet (first | (go_at_call 13; exact quiet_same0 (HF.out _)) | (go_at_call 13; exact quiet_same (HF.out _)) | (go_at_call 8; exact quiet_same0 (HW.out _)) | (go_at_call 8; exact quiet_same (HW.out _)))
    go_wp2
    go_ret
    exact ⟨rfl, by (repeat (first | exact Below.refl _ _ | exact below_drewN _ | refine Below.drew ?_ | refine Below.alloc ?_ (by simp) _ | refine Below.setCell ?_ (by simp) _ | refine below_drewN' ?_ _))⟩
end Go.Proofs.Ytkjhbfcblnbkfaa

/-! CsOk -/
namespace Go.Proofs.Ytkjhbfcblnbkfaa
open Go.RowKit

def CWideOk : Prop := ∀ (s : Int) (w : World), Calls Try.prog 8 #[.int .i64 s] w fun e w' => e = .returned (.bool (s == 87)) ∧ Below w.heap.size w w'
def CByFinalOk : Prop := ∀ (f : Int) (wide : Bool) (w : World), inI f = true → Calls Try.prog 22 #[.int .i64 f, .bool wide] w fun e w' => e = .returned (.tuple #[.int .i64 (byFinS f wide).1, .bool (byFinS f wide).2]) ∧ Below w.heap.size w w'
theorem w16_acc : accS 192 = (65, 65, true) := by decide +kernel
theorem w16_get : getS16 144 48 = (1040, true) := by decide +kernel
theorem w16_find : findS16 126 913 = (65, true) := by decide +kernel
theorem w16_fin : byFinS 70 false = (126, true) := by decide +kernel

end Go.Proofs.Ytkjhbfcblnbkfaa
