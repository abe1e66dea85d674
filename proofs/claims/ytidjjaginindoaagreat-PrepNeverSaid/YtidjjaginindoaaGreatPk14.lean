/- Several texts in one: Deep8, DecSpec8, DecOk, Parts8, ItM8, MapInts, LawTwice8, LawExact8, LawStays8, LawParts8, MapInts2. -/
import Derived.Test.YtidjjaginindoaaGreatPk12
import Derived.Test.YtidjjaginindoaaGreatPk3
import Derived.Test.YtidjjaginindoaaGreatPk13
import Derived.Maps.Keyed
import Derived.Maps.OwnOps
/-! Deep8 -/
namespace Go.Proofs.YtidjjaginindoaaGreat
open Go.RowKit

theorem fnd_key {c : Int} : ∀ {l : List Rg}, (fndS (fun r => r.f == c) l).2 = true → ∃ r ∈ l, r.f = c
  | [], h => by simp [fndS] at h
  | r :: l, h => by
    by_cases hp : (r.f == c) = true
    · exact ⟨r, List.mem_cons_self .., eq_of_beq hp⟩
    · rw [fndS, if_neg hp] at h
      obtain ⟨x, hx, e⟩ := fnd_key h
      exact ⟨x, List.mem_cons_of_mem _ hx, e⟩
theorem fndM_key {c : Int} : ∀ {l : List Mp}, (fndM c l).1.t ≠ [] → ∃ m ∈ l, m.f = c
  | [], h => absurd rfl h
  | m :: l, h => by
    by_cases hp : (m.f == c) = true
    · exact ⟨m, List.mem_cons_self .., eq_of_beq hp⟩
    · rw [fndM, if_neg hp] at h
      obtain ⟨x, hx, e⟩ := fndM_key h
      exact ⟨x, List.mem_cons_of_mem _ hx, e⟩
theorem canon_key {c : Int} (h : canonS c ≠ []) : ∃ r ∈ tabCanon, r.f = c := by
  unfold canonS at h
  split at h
  · refine fnd_key ?_
    cases hf : (fndS (fun r => r.f == c) tabCanon).2 with
    | true => rfl
    | false =>
      refine absurd ?_ h
      unfold rowS
      rw [hf]
      rfl
  · exact absurd rfl h
theorem map_key {l : List Mp} {c : Int} (h : mapS l c ≠ []) : ∃ m ∈ l, m.f = c := by
  unfold mapS at h
  split at h
  · exact fndM_key h
  · exact absurd rfl h

set_option maxRecDepth 1000000 in
/-- the canonical decompositions, row by row: what their two scalars come apart to has levels enough -/
theorem deep_canon : (tabCanon.all fun r => (canonS r.f).all fun x => deepB true 3 x && deepB false 3 x) = true := by decide +kernel
set_option maxRecDepth 1000000 in
theorem deep_compat : (tabCompat.all fun m => (mapS tabCompat m.f).all (deepB true 3)) = true := by decide +kernel
theorem deep_all {k : Bool} {c : Int} (h : inI c = true) : deepB k 4 c = true := by
  rw [deepB, h, Bool.true_and, Bool.or_eq_true]
  right
  unfold stepS
  cases hc : (canonS c).isEmpty with
  | true =>
    simp only [if_true]
    cases k with
    | false => rfl
    | true =>
      simp only [if_true]
      by_cases hm : mapS tabCompat c = []
      · rw [hm]; rfl
      · obtain ⟨m, hm1, rfl⟩ := map_key hm
        exact List.all_eq_true.1 deep_compat m hm1
  | false =>
    simp only [Bool.false_eq_true, if_false]
    obtain ⟨r, hr, rfl⟩ := canon_key (c := c) (fun e => by rw [e] at hc; simp at hc)
    have := List.all_eq_true.1 deep_canon r hr
    rw [List.all_eq_true] at this ⊢
    intro x hx
    have h2 := this x hx
    rw [Bool.and_eq_true] at h2
    cases k with
    | true => exact h2.1
    | false => exact h2.2

def oneS (k : Bool) (c : Int) : List Int := oneN k 4 c
def allS (k : Bool) (s : List Int) : List Int := s.flatMap (oneS k)
theorem one_levels (k : Bool) : OneOk k 4 := by
  have h0 : OneOk k 0 := fun B c w ht hd => by cases hd
  have h1 := oneOk (eachOk h0) (by decide)
  have h2 := oneOk (eachOk h1) (by decide)
  have h3 := oneOk (eachOk h2) (by decide)
  exact oneOk (eachOk h3) (by decide)
theorem refOne8 (k : Bool) (B : Nat) (c : Int) (w : World) (h : TabsAt B w) (hi : inI c = true) : Calls Tryz.prog 108 #[.pointer (some ⟨B, 0, none⟩), .int .i64 c, .bool k] w fun e w' => ∃ x, e = .returned x ∧ Sl .i64 w' x (oneS k c) ∧ Below w.heap.size w w' :=
  one_levels k B c w h (deep_all hi)
theorem refEach8 (k : Bool) (B : Nat) (v : Value) (s : List Int) (w : World) (h : TabsAt B w) (hs : Sl .i64 w v s) (hi : s.all inI = true) (hl : s.length ≤ 1000000) : Calls Tryz.prog 89 #[.pointer (some ⟨B, 0, none⟩), v, .bool k] w fun e w' => ∃ x, e = .returned x ∧ Own .i64 3 w.heap.size w' x (allS k s) ∧ Below w.heap.size w w' :=
  eachOk (one_levels k) B v s w h hs (by rw [List.all_eq_true] at hi ⊢; exact fun x hx => deep_all (hi x hx)) (by omega)
end Go.Proofs.YtidjjaginindoaaGreat

/-! DecSpec8 -/
namespace Go.Proofs.YtidjjaginindoaaGreat
open Go.RowKit

set_option maxRecDepth 1000000 in
theorem off_letters : (tabCanon.all fun r => decide (r.f < 4352 ∨ 4546 < r.f)) = true ∧ (tabCompat.all fun m => decide (m.f < 4352 ∨ 4546 < m.f)) = true := by decide +kernel
/-- nothing comes apart of it -/
def PlainS (k : Bool) (x : Int) : Prop := splitS x = [] ∧ stepS k x = []
theorem letter_plain (k : Bool) {x : Int} (h0 : 4352 ≤ x) (h1 : x ≤ 4546) : PlainS k x := by
  refine ⟨splitS_out (by omega), ?_⟩
  have hc : canonS x = [] := Classical.byContradiction fun h => by
    obtain ⟨r, hr, e⟩ := canon_key h
    have := List.all_eq_true.1 off_letters.1 r hr
    simp only [decide_eq_true_eq] at this
    omega
  have hm : mapS tabCompat x = [] := Classical.byContradiction fun h => by
    obtain ⟨m, hm, e⟩ := map_key h
    have := List.all_eq_true.1 off_letters.2 m hm
    simp only [decide_eq_true_eq] at this
    omega
  unfold stepS
  rw [hc, hm]
  cases k <;> rfl
theorem split_letters {c : Int} : ∀ x ∈ splitS c, 4352 ≤ x ∧ x ≤ 4546 := by
  unfold splitS
  split
  · rename_i h
    obtain ⟨n, hn⟩ : ∃ n : Nat, n = (c - 44032).toNat := ⟨_, rfl⟩
    have hn2 : n ≤ 11171 := by omega
    rw [← hn]
    intro x hx
    unfold partsN at hx
    split at hx <;> simp only [List.mem_cons, List.not_mem_nil, or_false] at hx <;> omega
  · intro x hx
    cases hx
theorem one_of_plain {k : Bool} {x : Int} (h : PlainS k x) (n : Nat) : oneN k (n + 1) x = [x] := by
  rw [oneN, h.1, h.2]
  rfl
theorem one_split {k : Bool} {c : Int} (h : splitS c ≠ []) (n : Nat) : oneN k (n + 1) c = splitS c := by
  rw [oneN]
  cases hq : splitS c with
  | nil => exact absurd hq h
  | cons x l => rfl
theorem one_step {k : Bool} {c : Int} (h : splitS c = []) (h2 : stepS k c ≠ []) (n : Nat) : oneN k (n + 1) c = (stepS k c).flatMap (oneN k n) := by
  rw [oneN, h]
  cases hq : stepS k c with
  | nil => exact absurd hq h2
  | cons x l => rfl
theorem deep_step {k : Bool} {n : Nat} {c : Int} (h : deepB k (n + 1) c = true) (hs : splitS c = []) : inI c = true ∧ ∀ x ∈ stepS k c, deepB k n x = true := by
  rw [deepB, Bool.and_eq_true] at h
  refine ⟨h.1, ?_⟩
  have := h.2
  rw [hs] at this
  simpa using this
/-- what a number comes apart to comes apart no more -/
theorem one_plain {k : Bool} : ∀ {n : Nat} {c : Int}, deepB k n c = true → ∀ x ∈ oneN k n c, PlainS k x
  | 0, _, h, _, _ => by cases h
  | n + 1, c, h, x, hx => by
    by_cases hs : splitS c = []
    · obtain ⟨_, hd⟩ := deep_step h hs
      by_cases ht : stepS k c = []
      · rw [one_of_plain ⟨hs, ht⟩] at hx
        obtain rfl : x = c := by simpa using hx
        exact ⟨hs, ht⟩
      · rw [one_step hs ht, List.mem_flatMap] at hx
        obtain ⟨y, hy, hx⟩ := hx
        exact one_plain (hd y hy) x hx
    · rw [one_split hs] at hx
      obtain ⟨h0, h1⟩ := split_letters x hx
      exact letter_plain k h0 h1
/-- more levels change nothing -/
theorem one_more {k : Bool} : ∀ {n : Nat} {c : Int}, deepB k n c = true → ∀ m, n ≤ m → oneN k m c = oneN k n c
  | 0, _, h, _, _ => by cases h
  | n + 1, c, h, m, hm => by
    obtain ⟨m, rfl⟩ : ∃ j, m = j + 1 := ⟨m - 1, by omega⟩
    by_cases hs : splitS c = []
    · obtain ⟨_, hd⟩ := deep_step h hs
      by_cases ht : stepS k c = []
      · rw [one_of_plain ⟨hs, ht⟩, one_of_plain ⟨hs, ht⟩]
      · rw [one_step hs ht, one_step hs ht]
        have key : ∀ l : List Int, (∀ x ∈ l, deepB k n x = true) → l.flatMap (oneN k m) = l.flatMap (oneN k n) := fun l => by
          induction l with
          | nil => intro _; rfl
          | cons x l ih =>
            intro hl
            rw [List.flatMap_cons, List.flatMap_cons, ih fun y hy => hl y (List.mem_cons_of_mem _ hy), one_more (hl x (List.mem_cons_self ..)) m (by omega)]
        exact key _ hd
    · rw [one_split hs, one_split hs]
theorem flat_same {f g : Int → List Int} : ∀ {l : List Int}, (∀ x ∈ l, f x = g x) → l.flatMap f = l.flatMap g
  | [], _ => rfl
  | x :: l, h => by rw [List.flatMap_cons, List.flatMap_cons, h x (List.mem_cons_self ..), flat_same fun y hy => h y (List.mem_cons_of_mem _ hy)]
/-- by its parts -/
theorem one_parts {k : Bool} {c : Int} (hi : inI c = true) (hs : splitS c = []) (ht : stepS k c ≠ []) : oneS k c = allS k (stepS k c) := by
  have hd := (deep_step (deep_all (k := k) hi) hs).2
  unfold oneS allS
  rw [one_step hs ht]
  exact flat_same fun x hx => (one_more (hd x hx) 4 (by omega)).symm
theorem oneS_plain {k : Bool} {c : Int} (hi : inI c = true) : ∀ x ∈ oneS k c, PlainS k x := one_plain (deep_all hi)
theorem oneS_of_plain {k : Bool} {x : Int} (h : PlainS k x) : oneS k x = [x] := one_of_plain h 3
theorem allS_plain {k : Bool} : ∀ {l : List Int}, (∀ x ∈ l, PlainS k x) → allS k l = l
  | [], _ => rfl
  | x :: l, h => by
    have ih := allS_plain (l := l) fun y hy => h y (List.mem_cons_of_mem _ hy)
    unfold allS at ih ⊢
    rw [List.flatMap_cons, ih, oneS_of_plain (h x (List.mem_cons_self ..))]
    rfl
/-- what is taken apart stays -/
theorem allS_mem {k : Bool} {s : List Int} (hi : s.all inI = true) : ∀ x ∈ allS k s, PlainS k x := fun x hx => by
  unfold allS at hx
  rw [List.mem_flatMap] at hx
  obtain ⟨c, hc, hx⟩ := hx
  exact oneS_plain (List.all_eq_true.1 hi c hc) x hx
theorem allS_stays {k : Bool} {s : List Int} (hi : s.all inI = true) : allS k (allS k s) = allS k s := allS_plain (allS_mem hi)
theorem allS_app (k : Bool) (a b : List Int) : allS k (a ++ b) = allS k a ++ allS k b := List.flatMap_append ..
theorem one_ne {k : Bool} : ∀ (n : Nat) (c : Int), oneN k n c ≠ []
  | 0, c => by simp [oneN]
  | n + 1, c => by
    by_cases hs : splitS c = []
    · by_cases ht : stepS k c = []
      · rw [one_of_plain ⟨hs, ht⟩]; simp
      · rw [one_step hs ht]
        cases hq : stepS k c with
        | nil => exact absurd hq ht
        | cons x l =>
          rw [List.flatMap_cons]
          intro h
          exact one_ne n x (List.append_eq_nil_iff.1 h).1
    · rw [one_split hs]; exact hs
theorem allS_len (k : Bool) : ∀ s : List Int, s.length ≤ (allS k s).length
  | [] => Nat.le_refl _
  | c :: s => by
    have ih := allS_len k s
    have := List.length_pos_iff.2 (one_ne (k := k) 4 c)
    unfold allS at ih ⊢
    unfold oneS at ih ⊢
    rw [List.flatMap_cons, List.length_append, List.length_cons]
    omega
theorem step_canon {k : Bool} {c : Int} (h : canonS c ≠ []) : stepS k c = canonS c := by
  unfold stepS
  cases hq : canonS c with
  | nil => exact absurd hq h
  | cons x l => rfl
/-- canonically, then compatibly, is compatibly -/
theorem one_twice : ∀ {n : Nat} {c : Int}, deepB false n c = true → (oneN false n c).flatMap (oneS true) = oneS true c
  | 0, _, h => by cases h
  | n + 1, c, h => by
    by_cases hs : splitS c = []
    · obtain ⟨hi, hd⟩ := deep_step h hs
      by_cases hc : canonS c = []
      · have ht : stepS false c = [] := by unfold stepS; rw [hc]; rfl
        rw [one_of_plain ⟨hs, ht⟩]
        simp
      · have e1 : stepS false c = canonS c := step_canon hc
        have e2 : stepS true c = canonS c := step_canon hc
        rw [one_step hs (by rw [e1]; exact hc), one_parts hi hs (by rw [e2]; exact hc), e1, e2, List.flatMap_assoc]
        unfold allS
        exact flat_same fun x hx => one_twice (hd x (by rw [e1]; exact hx))
    · rw [one_split hs]
      have e : oneS true c = splitS c := one_split hs 3
      rw [e]
      have : allS true (splitS c) = splitS c := allS_plain fun x hx => letter_plain true (split_letters x hx).1 (split_letters x hx).2
      exact this
theorem allS_twice {s : List Int} (hi : s.all inI = true) : allS true (allS false s) = allS true s := by
  unfold allS
  rw [List.flatMap_assoc]
  exact flat_same fun c hc => one_twice (deep_all (List.all_eq_true.1 hi c hc))
end Go.Proofs.YtidjjaginindoaaGreat

/-! DecOk -/
namespace Go.Proofs.YtidjjaginindoaaGreat
open Go.RowKit

def DAllOk : Prop := ∀ (k : Bool) (v : Value) (s : List Int) (w : World), Sl .i64 w v s → s.all inI = true → s.length ≤ 1000000 → Calls Tryz.prog 79 #[v, .bool k] w fun e w' => ∃ x, e = .returned x ∧ Own .i64 3 w.heap.size w' x (allS k s) ∧ Below w.heap.size w w'

theorem one_inI {k : Bool} : ∀ {n : Nat} {c : Int}, deepB k n c = true → ∀ x ∈ oneN k n c, inI x = true
  | 0, _, h, _, _ => by cases h
  | n + 1, c, h, x, hx => by
    by_cases hs : splitS c = []
    · obtain ⟨hi, hd⟩ := deep_step h hs
      by_cases ht : stepS k c = []
      · rw [one_of_plain ⟨hs, ht⟩] at hx
        obtain rfl : x = c := by simpa using hx
        exact hi
      · rw [one_step hs ht, List.mem_flatMap] at hx
        obtain ⟨y, hy, hx⟩ := hx
        exact one_inI (hd y hy) x hx
    · rw [one_split hs] at hx
      obtain ⟨h0, h1⟩ := split_letters x hx
      exact decide_eq_true ⟨by omega, by omega⟩
theorem allS_inI {k : Bool} {s : List Int} (hi : s.all inI = true) : (allS k s).all inI = true := by
  rw [List.all_eq_true]
  intro x hx
  unfold allS at hx
  rw [List.mem_flatMap] at hx
  obtain ⟨c, hc, hx⟩ := hx
  exact one_inI (deep_all (List.all_eq_true.1 hi c hc)) x hx
theorem allS_small {k : Bool} {s : List Int} (h : s.length ≤ 300) : (allS k s).length ≤ 1000000 := by
  have h2 : (allS k s).length ≤ s.length * (3 ^ 4 * 3) := each_len k 4 s
  omega
theorem allS_small2 {k : Bool} {s : List Int} (h : s.length ≤ 1000) : (allS k s).length ≤ 1000000 := by
  have h2 : (allS k s).length ≤ s.length * (3 ^ 4 * 3) := each_len k 4 s
  omega
set_option maxRecDepth 1000000 in
theorem w8_one : oneS false 7844 = [65, 770, 769] := by decide +kernel
set_option maxRecDepth 1000000 in
theorem w8_all : allS true [64257, 65] = [102, 105, 65] := by decide +kernel
set_option maxRecDepth 1000000 in
theorem w8_two : oneS false 64257 = [64257] := by decide +kernel

end Go.Proofs.YtidjjaginindoaaGreat

/-! Parts8 -/
namespace Go.Proofs.YtidjjaginindoaaGreat
open Go.RowKit

def partS (k : Bool) (c : Int) : List Int := if (splitS c).isEmpty then stepS k c else splitS c
theorem partS_split {k : Bool} {c : Int} (h : splitS c ≠ []) : partS k c = splitS c := by
  unfold partS
  rw [if_neg (by simpa using h)]
theorem partS_step {k : Bool} {c : Int} (h : splitS c = []) : partS k c = stepS k c := by
  unfold partS
  rw [h]
  rfl
theorem partS_len (k : Bool) (c : Int) : (partS k c).length ≤ 3 := by
  by_cases h : splitS c = []
  · rw [partS_step h]; exact stepS_len k c
  · rw [partS_split h]
    unfold splitS partsN
    split
    · split <;> simp
    · simp
theorem one_end {k : Bool} {c : Int} (h : partS k c = []) : oneS k c = [c] := by
  by_cases hs : splitS c = []
  · rw [partS_step hs] at h
    exact oneS_of_plain ⟨hs, h⟩
  · rw [partS_split hs] at h
    exact absurd h hs
theorem one_all {k : Bool} {c : Int} (hi : inI c = true) (h : partS k c ≠ []) : oneS k c = allS k (partS k c) := by
  by_cases hs : splitS c = []
  · rw [partS_step hs] at h ⊢
    exact one_parts hi hs h
  · rw [partS_split hs]
    rw [allS_plain (fun x hx => letter_plain k (split_letters x hx).1 (split_letters x hx).2)]
    exact one_split hs 3
theorem oneS_len (k : Bool) (c : Int) : (oneS k c).length ≤ 243 := oneN_len (stepS_len k) 4 c
/-- so many levels of parts suffice -/
def deepP (k : Bool) : Nat → Int → Prop
  | 0, _ => False
  | n + 1, c => inI c = true ∧ ∀ x ∈ partS k c, deepP k n x
theorem deepP_of {k : Bool} : ∀ {n : Nat} {c : Int}, deepB k n c = true → deepP k (n + 1) c
  | 0, _, h => by cases h
  | n + 1, c, h => by
    by_cases hs : splitS c = []
    · obtain ⟨hi, hd⟩ := deep_step h hs
      refine ⟨hi, fun x hx => ?_⟩
      rw [partS_step hs] at hx
      exact deepP_of (hd x hx)
    · refine ⟨?_, fun x hx => ?_⟩
      · unfold deepB at h
        simp only [Bool.and_eq_true] at h
        exact h.1
      · rw [partS_split hs] at hx
        obtain ⟨h0, h1⟩ := split_letters x hx
        refine ⟨decide_eq_true ⟨by omega, by omega⟩, fun y hy => ?_⟩
        obtain ⟨hp, hq⟩ := letter_plain k h0 h1
        rw [partS_step hp, hq] at hy
        cases hy
theorem deep_five {k : Bool} {c : Int} (h : inI c = true) : deepP k 5 c := deepP_of (deep_all h)
end Go.Proofs.YtidjjaginindoaaGreat

/-! ItM8 -/
namespace Go.Proofs.YtidjjaginindoaaGreat
open Go.RowKit Go.Shelf

/-- block b holds cells, and is neither the box B nor the block of the slice in it -/
def FreeOf (B : Nat) (t : TypeId) (W : World) (b : Nat) : Prop := (∃ o : Obj, W.heap[b]? = some o ∧ o.isCells = true) ∧ b ≠ B ∧ ∀ v, Boxed W B t v → some b ≠ v.ownBlock
/-- what a round of the collecting loop keeps -/
def KR (n₀ B : Nat) (t : TypeId) (W W' : World) : Prop := KeepRow n₀ B t W W' ∧ KeepsOthers W W'
theorem KR.refl (n₀ B : Nat) (t : TypeId) (W : World) : KR n₀ B t W W := ⟨KeepRow.refl _ _ _ _, KeepsOthers.refl _⟩
theorem KR.trans {n₀ B : Nat} {t : TypeId} {X Y Z : World} (h : KR n₀ B t X Y) (k : KR n₀ B t Y Z) : KR n₀ B t X Z := ⟨h.1.trans k.1, h.2.trans k.2⟩
theorem KR.free {n₀ B : Nat} {t : TypeId} {W W' : World} (h : KR n₀ B t W W') (hi : InvB B t W) {b : Nat} (hf : FreeOf B t W b) : W'.heap[b]? = W.heap[b]? ∧ FreeOf B t W' b := by
  obtain ⟨v, hv, hr⟩ := hi
  obtain ⟨v', hv', hs, _, hc⟩ := h.1.2 v hv hr
  obtain ⟨⟨o, ho, hcell⟩, hne, hown⟩ := hf
  have hsame := hc b o ho hcell hne (hown v hv)
  refine ⟨hsame.trans ho.symm, ⟨o, hsame, hcell⟩, hne, fun u hu => ?_⟩
  · obtain rfl : u = v' := by
      have := (show W'.heap[B]? = _ from hu).symm.trans hv'
      simpa using this
    rcases hs with hs | ⟨g, hg, hge⟩
    · rw [hs]; exact hown v hv
    · rw [hg]
      intro e
      have := (Array.getElem?_eq_some_iff.1 ho).1
      simp only [Option.some.injEq] at e
      omega

/-- a turn of no cells -/
def NoCells (W : World) (row : Option Nat) : Prop := ∀ r, row = some r → ∃ o : Obj, W.heap[r]? = some o ∧ o.isCells = false
theorem NoCells.none (W : World) : NoCells W none := fun _ e => by cases e
theorem boxed_back {W W' : World} {row : Option Nat} {B : Nat} {t : TypeId} {u v : Value} (hv : Boxed W B t v) (hg : W.grownBy W' row) (hr : NoCells W row) (hu : Boxed W' B t u) : u = v := by
  have h1 := hv.kept hg (fun e => by obtain ⟨o, ho, hc⟩ := hr B e.symm; rw [show W.heap[B]? = _ from hv] at ho; cases ho; cases hc)
  have := (show W'.heap[B]? = _ from hu).symm.trans h1
  simpa using this
theorem boxed_turn {W W' : World} {row : Option Nat} {B : Nat} {t : TypeId} {v : Value} (hv : Boxed W B t v) (hg : W.grownBy W' row) (hr : NoCells W row) : Boxed W' B t v :=
  hv.kept hg (fun e => by obtain ⟨o, ho, hc⟩ := hr B e.symm; rw [show W.heap[B]? = _ from hv] at ho; cases ho; cases hc)
theorem InvB.grown {W W' : World} {row : Option Nat} {B : Nat} {t : TypeId} (hi : InvB B t W) (hg : W.grownBy W' row) (hr : NoCells W row) : InvB B t W' := by
  obtain ⟨v, hv, hb⟩ := hi
  exact ⟨v, boxed_turn hv hg hr, fun r e => Nat.lt_of_lt_of_le (hb r e) hg.size⟩
theorem FreeOf.same {W W' : World} {row : Option Nat} {B : Nat} {t : TypeId} {b : Nat} (hf : FreeOf B t W b) (hg : W.grownBy W' row) (hr : NoCells W row) : W'.heap[b]? = W.heap[b]? := by
  obtain ⟨o, ho, hc⟩ := hf.1
  refine hg.block b (Array.getElem?_eq_some_iff.1 ho).1 (fun e => ?_)
  obtain ⟨o', ho', hc'⟩ := hr b e.symm
  rw [ho] at ho'
  cases ho'
  rw [hc] at hc'
  cases hc'
theorem FreeOf.grown {W W' : World} {row : Option Nat} {B : Nat} {t : TypeId} {b : Nat} (hf : FreeOf B t W b) (hi : InvB B t W) (hg : W.grownBy W' row) (hr : NoCells W row) : FreeOf B t W' b := by
  have hs := hf.same hg hr
  obtain ⟨v, hv, hb⟩ := hi
  obtain ⟨o, ho, hc⟩ := hf.1
  exact ⟨⟨o, hs.trans ho, hc⟩, hf.2.1, fun u hu => by rw [boxed_back hv hg hr hu]; exact hf.2.2 v hv⟩
theorem FreeOf.new {W W' : World} {row : Option Nat} {B : Nat} {t : TypeId} {b : Nat} (hi : InvB B t W) (hg : W.grownBy W' row) (hr : NoCells W row) (h1 : W.heap.size ≤ b) (h2 : ∃ o : Obj, W'.heap[b]? = some o ∧ o.isCells = true) : FreeOf B t W' b := by
  obtain ⟨v, hv, hb⟩ := hi
  refine ⟨h2, fun e => ?_, fun u hu e => ?_⟩
  · have := hv.lt; omega
  · rw [boxed_back hv hg hr hu] at e
    have := hb b e.symm
    omega

/-- a slice that reads as these numbers, its block among the Z -/
def SlZ (Z : Nat → Prop) (W : World) (v : Value) (xs : List Int) : Prop := Sl .i64 W v xs ∧ ∀ a n c, v = .slice (some a) n c → 0 < xs.length → Z a.block
theorem SlZ.move {Z Z' : Nat → Prop} {W W' : World} {v : Value} {xs : List Int} (h : SlZ Z W v xs) (hs : W.heap.size ≤ W'.heap.size) (hz : ∀ b, Z b → W'.heap[b]? = W.heap[b]? ∧ Z' b) : SlZ Z' W' v xs := by
  obtain ⟨⟨a, cap, hv, hl, hm, h⟩, hb⟩ := h
  refine ⟨⟨a, cap, hv, hl, hm, ?_⟩, fun a n c e h0 => (hz _ (hb a n c e h0)).2⟩
  rcases h with h | ⟨b, off, ha, hbb, hc⟩
  · exact .inl h
  · refine .inr ⟨b, off, ha, fun h0 => Nat.lt_of_lt_of_le (hbb h0) hs, fun i hi => ?_⟩
    rw [ha] at hv
    exact (World.cell?_of_block (hz b (hb _ _ _ hv (by omega))).1).trans (hc i hi)
theorem Own.slZ {e base : Nat} {W : World} {v : Value} {xs : List Int} (h : Own .i64 e base W v xs) : SlZ (fun b => base ≤ b ∧ ∃ o : Obj, W.heap[b]? = some o ∧ o.isCells = true) W v xs := by
  refine ⟨h.sl, fun a n c e _ => ?_⟩
  rcases h.2 with ⟨h1, _⟩ | ⟨g, cap, cur, h1, hg, hh, _⟩
  · rw [h1] at e; cases e
  · rw [h1] at e
    cases e
    exact ⟨hg, _, hh, rfl⟩

/-- What is in the map at M: numbers, each with a slice that reads as f says, its block among the Z. -/
def MapZ (f : Int → List Int) (Z : Nat → Prop) (M : Nat) (W : World) : Prop := ∃ es clock, W.heap[M]? = some (.map es clock) ∧ ∀ e ∈ es.toList, ∃ c, e.key = .int .i64 c ∧ inI c = true ∧ SlZ Z W e.val (f c)
theorem MapZ.move {f : Int → List Int} {Z Z' : Nat → Prop} {M : Nat} {W W' : World} (h : MapZ f Z M W) (hs : W.heap.size ≤ W'.heap.size) (hM : W'.heap[M]? = W.heap[M]?) (hz : ∀ b, Z b → W'.heap[b]? = W.heap[b]? ∧ Z' b) : MapZ f Z' M W' := by
  obtain ⟨es, clock, hm, he⟩ := h
  refine ⟨es, clock, hM.trans hm, fun e hin => ?_⟩
  obtain ⟨c, h1, h2, h3⟩ := he e hin
  exact ⟨c, h1, h2, h3.move hs hz⟩
theorem MapZ.lt {f : Int → List Int} {Z : Nat → Prop} {M : Nat} {W : World} (h : MapZ f Z M W) : M < W.heap.size := by
  obtain ⟨es, clock, hm, _⟩ := h
  exact (Array.getElem?_eq_some_iff.1 hm).1
theorem MapZ.nocells {f : Int → List Int} {Z : Nat → Prop} {M : Nat} {W : World} (h : MapZ f Z M W) : NoCells W (some M) := fun r e => by
  cases e
  obtain ⟨es, clock, hm, _⟩ := h
  exact ⟨_, hm, rfl⟩

/-- the memory of a decomposition under way: the collecting loop's variable in box B, the map at M -/
structure MemB (f : Int → List Int) (M B n₀ : Nat) (t : TypeId) (W : World) : Prop where
  size : n₀ ≤ W.heap.size
  above : n₀ ≤ M
  box : InvB B t W
  map : MapZ f (FreeOf B t W) M W
theorem MemB.kr {f : Int → List Int} {M B n₀ : Nat} {t : TypeId} {W W' : World} (h : MemB f M B n₀ t W) (hk : KR n₀ B t W W') : MemB f M B n₀ t W' := by
  refine ⟨Nat.le_trans h.size hk.1.1.size, h.above, hk.1.inv h.box, h.map.move hk.1.1.size ?_ (fun b hb => hk.free h.box hb)⟩
  obtain ⟨es, clock, hm, _⟩ := h.map
  exact (hk.2.same _ _ hm rfl).trans hm.symm
theorem MemB.grown {f : Int → List Int} {M B n₀ : Nat} {t : TypeId} {W W' : World} {row : Option Nat} (h : MemB f M B n₀ t W) (hg : W.grownBy W' row) (hr : NoCells W row) (hne : row ≠ some M) : MemB f M B n₀ t W' := by
  refine ⟨Nat.le_trans h.size hg.size, h.above, h.box.grown hg hr, h.map.move hg.size (hg.block M h.map.lt (fun e => hne e.symm)) (fun b hb => ⟨hb.same hg hr, hb.grown h.box hg hr⟩)⟩

/-- what the iterator may turn between two rounds: the map at M, and what is no cells and was laid since its call began -/
def AbidesM {β : Type} (L M : Nat) (J : β → World → Prop) : Prop :=
  ∀ s W W' row, J s W → W.grownBy W' row → (∀ r, row = some r → (r = M ∨ L ≤ r) ∧ ∃ o : Obj, W.heap[r]? = some o ∧ o.isCells = false) → J s W'
theorem AbidesM.mono {β : Type} {L L' M : Nat} {J : β → World → Prop} (h : AbidesM L M J) (hl : L ≤ L') : AbidesM L' M J := fun s W W' row hs hg hr =>
  h s W W' row hs hg fun r e => ⟨(hr r e).1.imp id (fun h => Nat.le_trans hl h), (hr r e).2⟩
theorem AbidesM.and {β : Type} {L M : Nat} {J J' : β → World → Prop} (h : AbidesM L M J) (h' : AbidesM L M J') : AbidesM L M (fun s W => J s W ∧ J' s W) := fun s W W' row hs hg hr =>
  ⟨h s W W' row hs.1 hg hr, h' s W W' row hs.2 hg hr⟩
theorem AbidesM.fn {β γ : Type} {L M : Nat} {J : γ → World → Prop} (h : AbidesM L M J) (g : β → γ) : AbidesM L M (fun s W => J (g s) W) := fun s W W' row hs hg hr => h (g s) W W' row hs hg hr
theorem AbidesM.alloc {β : Type} {L M : Nat} {J : β → World → Prop} (h : AbidesM L M J) {s : β} {W : World} (hs : J s W) (o : Obj) : J s (W.alloc o) := h s W _ none hs (World.grownBy_alloc W o none) (fun _ e => by cases e)
theorem AbidesM.putObj {β : Type} {L M : Nat} {J : β → World → Prop} (h : AbidesM L M J) {s : β} {W : World} {l : Nat} {o : Obj} (hs : J s W) (o' : Obj) (hl : L ≤ l) (ho : W.heap[l]? = some o) (hc : o.isCells = false) : J s (W.putObj l o') :=
  h s W _ (some l) hs (grownBy_putObj' W l o') (fun r e => by cases e; exact ⟨.inr hl, o, ho, hc⟩)
theorem AbidesM.below {β : Type} {L M : Nat} {J : β → World → Prop} (h : AbidesM L M J) {s : β} {W W' : World} (hs : J s W) (hb : Below W.heap.size W W') : J s W' :=
  h s W W' none hs ⟨hb.os, hb.tape, hb.output, hb.size, fun k hk _ => hb.block k hk⟩ (fun _ e => by cases e)
theorem abidesM_cells {β : Type} {L M : Nat} {J : β → World → Prop} (h : ∀ s W W' row, J s W → W.grownBy W' row → NoCells W row → J s W') : AbidesM L M J := fun s W W' row hs hg hr => h s W W' row hs hg (fun r e => (hr r e).2)
/-- what lies in one block that is no cells, and neither the map nor laid since -/
theorem abidesM_obj {β : Type} {L M D : Nat} {x : Obj} (hD : D < L) (hM : D ≠ M) : AbidesM L M (fun (_ : β) W => W.heap[D]? = some x) := fun _ W W' row hs hg hr => by
  refine (hg.block D (Array.getElem?_eq_some_iff.1 hs).1 (fun e => ?_)).trans hs
  have := (hr D e.symm).1
  omega
theorem abidesM_marks {β : Type} {base L M : Nat} {ds : List Deferred} (hM : M < base) (hlt : ∀ D, ({ target := .collected D, args := #[] } : Deferred) ∈ ds → D < L) : AbidesM L M (fun (_ : β) w => Marks base w ds) := fun _ W W' row hs hg hr => by
  refine hs.turned fun D hD => hg.block D (Array.getElem?_eq_some_iff.1 (hs.at hD).2).1 (fun e => ?_)
  have h1 := (hr D e.symm).1
  have h2 := hlt D hD
  have h3 := (hs.at hD).1
  omega
theorem abidesM_below {β : Type} {n₀ L M : Nat} {w₀ : World} (hn : n₀ ≤ w₀.heap.size) (hL : n₀ ≤ L) (hM : n₀ ≤ M) : AbidesM L M (fun (_ : β) W => Below n₀ w₀ W) :=
  fun _ _ _ _ hs hg hr => hs.grown hg (Nat.le_trans hn hs.size) (fun k e => by have := (hr k e).1; omega)

theorem room_of_none {F : Fence} (hd : F.depth = none) (k : Nat) : F.room k := fun d h => by rw [hd] at h; cases h
theorem round_anyDepth {F : Fence} (hd : F.depth = none) {m m' : Nat} {P : Program} {l : Nat} {f : FuncId} {tmps : Array Value} {assign body : Code} {w : World} {R : Ending → World → Prop}
    (h : RoundIn F m P l f tmps assign body w R) : RoundIn F m' P l f tmps assign body w R := ⟨h.1, fun c cs _ => h.2 c cs (room_of_none hd _)⟩

/-- The contract of an iterator that gives xs: called at yield l, while St and the memory stand. -/
def GivesM (P : Program) (gf : Nat) (lb : Array Value) (f : Int → List Int) (M B n₀ : Nat) (t : TypeId) (St : World → Prop) (xs : List Int) : Prop :=
  ∀ (m l : Nat) (J : List Int → World → Prop) (W : World), AbidesM W.heap.size M J →
    (∀ m' pre x W1, J pre W1 → MemB f M B n₀ t W1 → pre.length < xs.length → YieldAt Fence.wide m' P l #[.int .i64 x] W1 fun e W' => e = .returned (.bool true) ∧ J (pre ++ [x]) W' ∧ KR n₀ B t W1 W') →
    J [] W → St W → MemB f M B n₀ t W →
    CallsIn Fence.wide m P gf (#[.func (.yield l) #[] #[]] ++ lb) W fun e W' => (∃ v, e = .returned v) ∧ J xs W' ∧ MemB f M B n₀ t W'

/-- how a round may end -/
def roundM (n₀ B : Nat) (t : TypeId) (I : List Int → World → Prop) (xs : List Int) (W : World) : Exit → Act → World → Prop
  | .normal, _, W' => KR n₀ B t W W' ∧ I xs W'
  | _, _, _ => False

theorem wpIn_rangeFunc_M {P : Program} {n : Nat} {g : Operand} {ps : Array Tmp} {assign body : Code} {Q : Exit → Act → World → Prop} {a : Act} {w : World}
    {gf : Nat} {lb : Array Value} (hg : a.eval g = .func (.func gf) #[] lb) (eg : ∀ args w, (callFunc gf args).run P w = .ok (.enter gf args) w)
    {f : Int → List Int} {M B n₀ : Nat} {t : TypeId} {St : World → Prop} {xs : List Int} (hseq : GivesM P gf lb f M B n₀ t St xs) (hSt : ∀ o o', St ((w.alloc o).alloc o')) (hmem : MemB f M B n₀ t w) (hps : ps.size = 1)
    (I : List Int → World → Prop) (hI : AbidesM w.heap.size M I) (h0 : I [] w) (a₁ : Int → Act)
    (hassign : ∀ (l : Nat) (x : Int) (W : World) (K : Act → World → Prop), K (a₁ x) W →
      assign.wpIn (Fence.wide.inRound l) (n - 1 - 1) P (Exit.then K (fun _ _ _ => False)) { tmps := (ps.zip #[.int .i64 x]).foldl (fun t (p, v) => t.setIfInBounds p v) a.tmps, defers := [] } W)
    (hbody : ∀ (l : Nat) (pre : List Int) (x : Int) (W : World), I pre W → MemB f M B n₀ t W → pre.length < xs.length → body.wpIn (Fence.wide.inRound l) (n - 1 - 1) P (roundM n₀ B t I (pre ++ [x]) W) (a₁ x) W)
    (hdone : ∀ (D : Nat) (W : World), w.heap.size ≤ D → I xs W → MemB f M B n₀ t W → W.heap[D]? = some (.deferred (some [])) → Q .normal { a with defers := { target := .collected D, args := #[] } :: a.defers } W) :
    (Code.rangeFunc g ps assign body).wpIn Fence.wide n P Q a w := by
  refine wpIn_rangeFunc ?_
  intro fn hfn
  obtain ⟨rec, hrec⟩ : ∃ rec : LoopState → Option Code → Loop, rec = fun st pe => { state := st, pending := pe, fn, tmps := a.tmps, params := ps, assign, body, defers := w.heap.size } := ⟨_, rfl⟩
  obtain ⟨W1, hW1⟩ : ∃ W1, (w.alloc (.deferred (some []))).alloc (.loop (rec .ready none)) = W1 := ⟨_, rfl⟩
  have hL1 : W1.heap[w.heap.size + 1]? = some (.loop (rec .ready none)) := by
    rw [← hW1]; have := World.alloc_heap_new (w.alloc (.deferred (some []))) (.loop (rec .ready none)); rwa [World.size_alloc] at this
  have hK1 : W1.heap[w.heap.size]? = some (.deferred (some [])) := by
    rw [← hW1]; exact (Below.heap_alloc _ _ _ (by simp)).trans (World.alloc_heap_new w _)
  have hI1 : I [] W1 := by rw [← hW1]; exact hI.alloc (hI.alloc h0 _) _
  have hM1 : MemB f M B n₀ t W1 := by
    rw [← hW1]
    exact (hmem.grown (World.grownBy_alloc w _ none) (NoCells.none _) (by simp)).grown (World.grownBy_alloc _ _ none) (NoCells.none _) (by simp)
  have hs1 : W1.heap.size = w.heap.size + 2 := by rw [← hW1]; simp
  have hMlt := hmem.map.lt
  have hnw := hmem.size
  refine ⟨w.heap.size + 1, [{ target := .collected w.heap.size, args := #[] }], W1, { target := .fn (.func gf) lb, args := #[.func (.yield (w.heap.size + 1)) #[] #[]] }, W1, gf,
    #[.func (.yield (w.heap.size + 1)) #[] #[]] ++ lb, W1, ?_, ?_, ?_, ?_, fun h => (by cases h), ?_⟩
  · rw [← hW1, hrec]; exact run_enterLoop_outer _ _ _ _ _
  · simp only [resolve, hg]
    simp [go_sem]
  · intro f' hf'; trivial
  · simp [invoke, go_sem, eg]
  · refine (hseq (n - 1) (w.heap.size + 1)
      (fun pre W => I pre W ∧ W.heap[w.heap.size + 1]? = some (.loop (rec .ready none)) ∧ W.heap[w.heap.size]? = some (.deferred (some [])))
      W1 ((hI.mono (by omega)).and ((abidesM_obj (by omega) (by omega)).and (abidesM_obj (by omega) (by omega)))) ?_ ⟨hI1, hL1, hK1⟩ (by rw [← hW1]; exact hSt _ _) hM1).mono ?_
    · rintro m' pre x W ⟨hi, hl, hk⟩ hm hlen
      have hy := run_yield (P := P) (args := #[.int .i64 x]) hl (by rw [hrec]; simp [hps])
      rw [hrec] at hy
      refine ⟨fn, _, assign, body, hy, round_anyDepth rfl (m := n - 1 - 1) (roundIn_of_wpIn hfn (hassign _ x W _ ⟨_, run_beginRound hl (by rw [hrec]), ?_⟩))⟩
      have hl2 : (W.putObj (w.heap.size + 1) (.loop { rec .ready none with state := .busy })).heap[w.heap.size + 1]? = some (.loop { rec .ready none with state := .busy }) := World.putObj_heap_same (Array.getElem?_eq_some_iff.1 hl).1
      have hk2 : (W.putObj (w.heap.size + 1) (.loop { rec .ready none with state := .busy })).heap[w.heap.size]? = some (.deferred (some [])) := (World.putObj_heap_other (by omega)).trans hk
      have hrow : KeepRow n₀ B t W (W.putObj (w.heap.size + 1) (.loop { rec .ready none with state := .busy })) := keepRow_putObj (m := w.heap.size) hnw _ _ _ _ (by omega) hl rfl
      have hm2 : MemB f M B n₀ t (W.putObj (w.heap.size + 1) (.loop { rec .ready none with state := .busy })) := hm.grown (grownBy_putObj' W _ _) (fun r e => by cases e; exact ⟨_, hl, rfl⟩) (by simp; omega)
      refine wpIn_mono (hbody _ pre x _ (hI.putObj hi _ (by omega) hl rfl) hm2 hlen) ?_
      rintro e a3 W3 hp
      cases e with
      | normal =>
        obtain ⟨hk3, hi3⟩ := hp
        have hl3 := hk3.2.same _ _ hl2 rfl
        have hr3 := run_endRound (P := P) none hl3
        have e3 : (Loop.mk .ready none fn a.tmps ps assign body w.heap.size) = rec .ready none := by rw [hrec]
        refine ⟨_, _, hr3, rfl, ⟨hI.putObj hi3 _ (by omega) hl3 rfl, ?_, (World.putObj_heap_other (by omega)).trans (hk3.2.same _ _ hk2 rfl)⟩, (hrow.trans hk3.1).trans (keepRow_putObj (m := w.heap.size) hnw _ _ _ _ (by omega) hl3 rfl), ?_, ?_⟩
        · rw [World.putObj_heap_same (Array.getElem?_eq_some_iff.1 hl3).1]
          rw [hrec]
          rfl
        · exact Nat.le_trans (Nat.le_trans (grownBy_putObj' W _ _).size hk3.2.size) (grownBy_putObj' W3 _ _).size
        · intro k o hko hoc
          by_cases hkl : k = w.heap.size + 1
          · subst hkl
            rw [hl] at hko
            cases hko
            rw [World.putObj_heap_same (Array.getElem?_eq_some_iff.1 hl3).1, hrec]
            rfl
          · exact (World.putObj_heap_other hkl).trans (hk3.2.same k o ((World.putObj_heap_other hkl).trans hko) hoc)
      | ret => exact hp.elim
      | exit id => exact hp.elim
      | goto t => exact hp.elim
      | panic ch => exact hp.elim
      | outgrown => exact hp.elim
    · rintro e W2 ⟨⟨v, rfl⟩, ⟨hi, hl, hk⟩, hm⟩
      exact ⟨none, _, by have := run_endLoop (P := P) hl (by rw [hrec]; simp); rw [hrec] at this; exact this, hdone _ _ (Nat.le_refl _) (hI.putObj hi _ (by omega) hl rfl) (hm.grown (grownBy_putObj' W2 _ _) (fun r e => by cases e; exact ⟨_, hl, rfl⟩) (by simp; omega)) ((World.putObj_heap_other (by omega)).trans hk)⟩
end Go.Proofs.YtidjjaginindoaaGreat

/-! MapInts -/
namespace Go.Proofs.YtidjjaginindoaaGreat
open Go.RowKit Go.Shelf

def IntKeys (es : Array MapEntry) : Prop := ∀ e ∈ es.toList, ∃ c, e.key = .int .i64 c ∧ inI c = true
theorem wf_int {c : Int} (h : inI c = true) : (Lit.int .i64 c).wf = true := by
  unfold inI at h
  rw [decide_eq_true_iff] at h
  simpa [Lit.wf, IntKind.min, IntKind.max, IntKind.signed, IntKind.bits] using h
theorem look_ints {P : Program} {W : World} {T k e : TypeId} (ht : P.underlying T = some (.map k e)) (hk : P.underlying k = some (.int .i64)) {z : Value} (hz : (zeroValue e).run P W = .ok z W) {M : Nat} {es : Array MapEntry} {clock : Nat}
    (hM : W.heap[M]? = some (.map es clock)) (hes : IntKeys es) {c : Int} (hc : inI c = true) :
    (Instr.lookup T (.map (some M)) (.int .i64 c) true).run P W = .ok (.tuple #[z, .bool false]) W ∨ ∃ e0 ∈ es.toList, e0.key = .int .i64 c ∧ (Instr.lookup T (.map (some M)) (.int .i64 c) true).run P W = .ok (.tuple #[e0.val, .bool true]) W := by
  have K : Maps.Keyed P k := Maps.int_keyed hk
  have hkey := Maps.keyOf_int_mk hk (wf_int hc)
  rcases K.find W hkey es.toList (fun x hx => by obtain ⟨c', h1, h2⟩ := hes x hx; exact ⟨_, by rw [h1]; exact Maps.keyOf_int_mk hk (wf_int h2)⟩) with ⟨h1, _⟩ | ⟨j, e0, h1, h2, h3⟩
  · exact .inl (by simp [Instr.lookup, run_underlying ht, MapKept.run_getObj_map hM, K.check W _ hkey, h1, hz, Result.andThen])
  · exact .inr ⟨e0, List.mem_of_getElem? h2, h3, by simp [Instr.lookup, run_underlying ht, MapKept.run_getObj_map hM, K.check W _ hkey, h1, Result.andThen]⟩
theorem store_ints {P : Program} {W : World} {T k e : TypeId} (ht : P.underlying T = some (.map k e)) (hk : P.underlying k = some (.int .i64)) {M : Nat} {es : Array MapEntry} {clock : Nat}
    (hM : W.heap[M]? = some (.map es clock)) (hes : IntKeys es) {c : Int} (hc : inI c = true) (val : Value) :
    ∃ W', (Instr.mapUpdate T (.map (some M)) (.int .i64 c) val).run P W = .ok () W' ∧ W.grownBy W' (some M) ∧ ∃ es' clock', W'.heap[M]? = some (.map es' clock') ∧ ∀ x ∈ es'.toList, x ∈ es.toList ∨ (x.key = .int .i64 c ∧ x.val = val) := by
  have K : Maps.Keyed P k := Maps.int_keyed hk
  have hkey := Maps.keyOf_int_mk hk (wf_int hc)
  have grown : ∀ o, W.grownBy (ChangeMaps.setBlock W M o) (some M) := fun o => ⟨rfl, rfl, rfl, by simp [ChangeMaps.setBlock], fun i _ hi => ChangeMaps.heap_setBlock_other hM _ (fun e => hi (by rw [e]))⟩
  rcases K.find W hkey es.toList (fun x hx => by obtain ⟨c', h1, h2⟩ := hes x hx; exact ⟨_, by rw [h1]; exact Maps.keyOf_int_mk hk (wf_int h2)⟩) with ⟨h1, _⟩ | ⟨j, e0, h1, h2, h3⟩
  · refine ⟨_, by simp [Instr.mapUpdate, run_underlying ht, MapKept.run_getObj_map hM, K.check W false hkey, h1, MapKept.run_setObj_map _ hM, Result.andThen]; rfl, grown _, _, _, ChangeMaps.heap_setBlock_same hM _, fun x hx => ?_⟩
    simp only [Array.toList_push, List.mem_append, List.mem_singleton] at hx
    rcases hx with hx | rfl
    · exact .inl hx
    · exact .inr ⟨rfl, rfl⟩
  · have hj : es[j]? = some e0 := by simpa using h2
    have hst := K.stays W hkey
    refine ⟨_, by simp [Instr.mapUpdate, run_underlying ht, MapKept.run_getObj_map hM, K.check W false hkey, h1, hj, h3, hst, MapKept.run_setObj_map _ hM, Result.andThen]; rfl, grown _, _, _, ChangeMaps.heap_setBlock_same hM _, fun x hx => ?_⟩
    rw [Array.toList_modify, ChangeMaps.modify_eq_set _ _ _ _ h2] at hx
    rcases List.mem_or_eq_of_mem_set hx with hx | rfl
    · exact .inl hx
    · exact .inr ⟨rfl, rfl⟩
theorem wpList_lookInts {P : Program} {w : World} {ops : Array Oper} {rest : List Oper} {o : Oper} {a : Act} {Q : Exit → Act → World → Prop}
    (hg : o.guard = none) (m x : Operand) (T : TypeId) (hop : o.op = Op.lookup T m x true) (M : Nat) (c : Int) (hm : a.eval m = .map (some M)) (hx : a.eval x = .int .i64 c) {r : Value}
    (hrun : (Instr.lookup T (.map (some M)) (.int .i64 c) true).run P w = .ok r w) (hK : wpList P ops Q rest (a.put o.dst r) w) : wpList P ops Q (o :: rest) a w := by
  refine wpList_plain hg fun K' hK' => ?_
  unfold Oper.wp
  simp [execOp, hop, hm, hx, hrun, Result.andThen]
  exact hK' _ _ hK
theorem wpList_storeInts {P : Program} {w : World} {ops : Array Oper} {rest : List Oper} {o : Oper} {a : Act} {Q : Exit → Act → World → Prop}
    (hg : o.guard = none) (m x y : Operand) (T : TypeId) (hop : o.op = Op.mapUpdate T m x y) (M : Nat) (c : Int) (val : Value) (hm : a.eval m = .map (some M)) (hx : a.eval x = .int .i64 c) (hy : a.eval y = val) {w' : World}
    (hrun : (Instr.mapUpdate T (.map (some M)) (.int .i64 c) val).run P w = .ok () w') (hK : wpList P ops Q rest (a.put o.dst undef) w') : wpList P ops Q (o :: rest) a w := by
  refine wpList_plain hg fun K' hK' => ?_
  unfold Oper.wp
  simp [execOp, hop, hm, hx, hy, hrun, Result.andThen]
  exact hK' _ _ hK
end Go.Proofs.YtidjjaginindoaaGreat

/-! LawTwice8 -/
namespace Go.Proofs.YtidjjaginindoaaGreat
open Go.RowKit

end Go.Proofs.YtidjjaginindoaaGreat

/-! LawExact8 -/
namespace Go.Proofs.YtidjjaginindoaaGreat
open Go.RowKit

end Go.Proofs.YtidjjaginindoaaGreat

/-! LawStays8 -/
namespace Go.Proofs.YtidjjaginindoaaGreat
open Go.RowKit

theorem plain_canon {k : Bool} {x : Int} (h : PlainS k x) : canonS x = [] := Classical.byContradiction fun hc => hc (by rw [← step_canon (k := k) hc]; exact h.2)
theorem plain_compat {x : Int} (h : PlainS true x) : mapS tabCompat x = [] := by
  have hc := plain_canon h
  have := h.2
  unfold stepS at this
  rw [hc] at this
  exact this
theorem i64_of {x : Int} (h : inI x = true) : I64n x := by
  unfold inI at h
  have h2 := of_decide_eq_true h
  exact h2

end Go.Proofs.YtidjjaginindoaaGreat

/-! LawParts8 -/
namespace Go.Proofs.YtidjjaginindoaaGreat
open Go.RowKit

set_option maxRecDepth 1000000 in
theorem rows_off : (tabCanon.all fun r => decide (r.f < 44032 ∨ 55203 < r.f)) = true ∧ (tabCompat.all fun m => decide (m.f < 44032 ∨ 55203 < m.f)) = true := by decide +kernel
theorem canon_nosplit {c : Int} (h : canonS c ≠ []) : splitS c = [] := by
  obtain ⟨r, hr, rfl⟩ := canon_key h
  have := List.all_eq_true.1 rows_off.1 r hr
  simp only [decide_eq_true_eq] at this
  exact splitS_out (by omega)
theorem compat_nosplit {c : Int} (h : mapS tabCompat c ≠ []) : splitS c = [] := by
  obtain ⟨m, hm, rfl⟩ := map_key h
  have := List.all_eq_true.1 rows_off.2 m hm
  simp only [decide_eq_true_eq] at this
  exact splitS_out (by omega)
theorem i64_of8 {x : Int} (h : inI x = true) : I64n x := by
  unfold inI at h
  have h2 := of_decide_eq_true h
  exact h2
theorem step_inI {k : Bool} {c : Int} (hi : inI c = true) (hs : splitS c = []) : (stepS k c).all inI = true := by
  rw [List.all_eq_true]
  intro x hx
  have := (deep_step (deep_all (k := k) hi) hs).2 x hx
  rw [deepB, Bool.and_eq_true] at this
  exact this.1
theorem compat_step {c : Int} (hca : canonS c = []) : stepS true c = mapS tabCompat c := by
  unfold stepS
  rw [hca]
  rfl
theorem compat_one {c : Int} (hi : inI c = true) (hca : canonS c = []) (hne : mapS tabCompat c ≠ []) : oneS true c = allS true (mapS tabCompat c) := by
  rw [← compat_step hca]
  exact one_parts hi (compat_nosplit hne) (by rw [compat_step hca]; exact hne)
theorem compat_inI {c : Int} (hi : inI c = true) (hca : canonS c = []) (hne : mapS tabCompat c ≠ []) : (mapS tabCompat c).all inI = true := by
  rw [← compat_step hca]
  exact step_inI hi (compat_nosplit hne)
theorem compat_len {c : Int} (hca : canonS c = []) : (mapS tabCompat c).length ≤ 3 := by
  rw [← compat_step hca]
  exact stepS_len true c
theorem split_inI (c : Int) : (splitS c).all inI = true := by
  rw [List.all_eq_true]
  intro x hx
  obtain ⟨h0, h1⟩ := split_letters x hx
  exact decide_eq_true ⟨by omega, by omega⟩
theorem split_len (c : Int) : (splitS c).length ≤ 3 := by
  unfold splitS partsN
  split
  · split <;> simp
  · simp

end Go.Proofs.YtidjjaginindoaaGreat

/-! MapInts2 -/
namespace Go.Proofs.YtidjjaginindoaaGreat
open Go.RowKit Go.Shelf

theorem look_ints2 {P : Program} {W : World} {T k e : TypeId} (ht : P.underlying T = some (.map k e)) (hk : P.underlying k = some (.int .i64)) {z : Value} (hz : (zeroValue e).run P W = .ok z W) {M : Nat} {es : Array MapEntry} {clock : Nat}
    (hM : W.heap[M]? = some (.map es clock)) (hes : IntKeys es) {c : Int} (hc : inI c = true) :
    ((Instr.lookup T (.map (some M)) (.int .i64 c) true).run P W = .ok (.tuple #[z, .bool false]) W ∧ ∀ x ∈ es.toList, x.key ≠ .int .i64 c) ∨ ∃ e0 ∈ es.toList, e0.key = .int .i64 c ∧ (Instr.lookup T (.map (some M)) (.int .i64 c) true).run P W = .ok (.tuple #[e0.val, .bool true]) W := by
  have K : Maps.Keyed P k := Maps.int_keyed hk
  have hkey := Maps.keyOf_int_mk hk (wf_int hc)
  rcases K.find W hkey es.toList (fun x hx => by obtain ⟨c', h1, h2⟩ := hes x hx; exact ⟨_, by rw [h1]; exact Maps.keyOf_int_mk hk (wf_int h2)⟩) with ⟨h1, hn⟩ | ⟨j, e0, h1, h2, h3⟩
  · exact .inl ⟨by simp [Instr.lookup, run_underlying ht, MapKept.run_getObj_map hM, K.check W _ hkey, h1, hz, Result.andThen], hn⟩
  · exact .inr ⟨e0, List.mem_of_getElem? h2, h3, by simp [Instr.lookup, run_underlying ht, MapKept.run_getObj_map hM, K.check W _ hkey, h1, Result.andThen]⟩
theorem store_ints2 {P : Program} {W : World} {T k e : TypeId} (ht : P.underlying T = some (.map k e)) (hk : P.underlying k = some (.int .i64)) {M : Nat} {es : Array MapEntry} {clock : Nat}
    (hM : W.heap[M]? = some (.map es clock)) (hes : IntKeys es) {c : Int} (hc : inI c = true) (val : Value) :
    ∃ W', (Instr.mapUpdate T (.map (some M)) (.int .i64 c) val).run P W = .ok () W' ∧ W.grownBy W' (some M) ∧ ∃ es' clock', W'.heap[M]? = some (.map es' clock') ∧ (∀ x ∈ es'.toList, x ∈ es.toList ∨ (x.key = .int .i64 c ∧ x.val = val)) ∧
      (∀ x ∈ es.toList, ∃ y ∈ es'.toList, y.key = x.key) ∧ ∃ y ∈ es'.toList, y.key = .int .i64 c := by
  have K : Maps.Keyed P k := Maps.int_keyed hk
  have hkey := Maps.keyOf_int_mk hk (wf_int hc)
  have grown : ∀ o, W.grownBy (ChangeMaps.setBlock W M o) (some M) := fun o => ⟨rfl, rfl, rfl, by simp [ChangeMaps.setBlock], fun i _ hi => ChangeMaps.heap_setBlock_other hM _ (fun e => hi (by rw [e]))⟩
  rcases K.find W hkey es.toList (fun x hx => by obtain ⟨c', h1, h2⟩ := hes x hx; exact ⟨_, by rw [h1]; exact Maps.keyOf_int_mk hk (wf_int h2)⟩) with ⟨h1, _⟩ | ⟨j, e0, h1, h2, h3⟩
  · refine ⟨_, by simp [Instr.mapUpdate, run_underlying ht, MapKept.run_getObj_map hM, K.check W false hkey, h1, MapKept.run_setObj_map _ hM, Result.andThen]; rfl, grown _, _, _, ChangeMaps.heap_setBlock_same hM _, fun x hx => ?_, fun x hx => ⟨x, ?_, rfl⟩, ⟨.int .i64 c, val, clock⟩, ?_, rfl⟩
    · simp only [Array.toList_push, List.mem_append, List.mem_singleton] at hx
      rcases hx with hx | rfl
      · exact .inl hx
      · exact .inr ⟨rfl, rfl⟩
    · rw [Array.toList_push]
      exact List.mem_append_left _ hx
    · rw [Array.toList_push]
      exact List.mem_append_right _ (List.mem_singleton.2 rfl)
  · have hj : es[j]? = some e0 := by simpa using h2
    have hst := K.stays W hkey
    have hjl : j < es.toList.length := (List.getElem?_eq_some_iff.1 h2).1
    have hlist : (es.modify j (fun e' => { e' with key := .int .i64 c, val := val })).toList = es.toList.set j { e0 with key := .int .i64 c, val := val } := by rw [Array.toList_modify, ChangeMaps.modify_eq_set _ _ _ _ h2]
    have hnew : ({ e0 with key := .int .i64 c, val := val } : MapEntry) ∈ es.toList.set j { e0 with key := .int .i64 c, val := val } := List.mem_set hjl _
    refine ⟨_, by simp [Instr.mapUpdate, run_underlying ht, MapKept.run_getObj_map hM, K.check W false hkey, h1, hj, h3, hst, MapKept.run_setObj_map _ hM, Result.andThen]; rfl, grown _, _, _, ChangeMaps.heap_setBlock_same hM _, fun x hx => ?_, fun x hx => ?_, ?_⟩
    · rw [hlist] at hx
      rcases List.mem_or_eq_of_mem_set hx with hx | rfl
      · exact .inl hx
      · exact .inr ⟨rfl, rfl⟩
    · rw [hlist]
      obtain ⟨i, hi, ex⟩ := List.getElem_of_mem hx
      by_cases hij : i = j
      · subst hij
        refine ⟨_, hnew, ?_⟩
        have : es.toList[i]? = some x := by rw [List.getElem?_eq_getElem hi, ex]
        rw [h2] at this
        cases this
        exact h3.symm
      · exact ⟨x, by
          have : (es.toList.set j { e0 with key := .int .i64 c, val := val })[i]'(by simpa using hi) = x := by rw [List.getElem_set_ne (fun e => hij e.symm)]; exact ex
          rw [← this]; exact List.getElem_mem _, rfl⟩
    · rw [hlist]
      exact ⟨_, hnew, rfl⟩
end Go.Proofs.YtidjjaginindoaaGreat
