/- Several texts in one: TelSpec, TelMath, TelFin, StrSpec, Cho20a. -/
import Derived.Test.YtildhebaikeknaaGreatPk16
import Derived.Test.YtildhebaikeknaaGreatPk17
import Derived.Test.YtildhebaikeknaaGreatPk1
import Derived.Test.YtildhebaikeknaaGreatPk19
import Derived.Test.YtildhebaikeknaaGreatPk22
import Derived.Test.YtildhebaikeknaaGreatPk8
import Derived.Test.YtildhebaikeknaaGreatPk2
/-! TelSpec -/
namespace Go.Proofs.YtildhebaikeknaaGreat

/-- one scalar of k tokens ahead of what the others mean -/
def consM (k : Nat) (c : Int) : List Int ⊕ (Nat × Int) → List Int ⊕ (Nat × Int)
  | .inl l => .inl (c :: l)
  | .inr (i, e) => .inr (k + i, e)
/-- what tokens mean, or which one has no meaning and how -/
def meanS : List (Int × Int) → List Int ⊕ (Nat × Int)
  | [] => .inl []
  | [t] =>
    if t.1 = 0 then .inl [t.2]
    else if (getS16 t.1 t.2).2 = true then .inl [(getS16 t.1 t.2).1]
    else if t.1 = 103 ∧ (markS t.2).2.2 = true then .inr (0, 2) else .inr (0, 13)
  | t :: n :: q =>
    if t.1 = 0 then consM 1 t.2 (meanS (n :: q))
    else if (getS16 t.1 t.2).2 = true then consM 1 (getS16 t.1 t.2).1 (meanS (n :: q))
    else if t.1 = 103 ∧ (markS t.2).2.2 = true then
      (if n.1 = 0 ∧ n.2 = 32 then consM 2 (markS t.2).2.1 (meanS q)
      else if (n.1 = 102 ∨ n.1 = 6) ∧ (getS16 n.1 n.2).2 = true ∧ letB (getS16 n.1 n.2).1 = true ∧ (pairS (getS16 n.1 n.2).1 (markS t.2).1).2 = true then consM 2 (pairS (getS16 n.1 n.2).1 (markS t.2).1).1 (meanS q)
      else .inr (0, 13))
    else .inr (0, 13)
def read18 (b : List Int) : List Int ⊕ (Nat × Int) :=
  match tokS b with
  | .inl l => meanS l
  | .inr x => .inr x
def escP (g set : Int) : List Int := if set = 87 then [27, 36, 40 + g, finalS set] else [27, 40 + g, finalS set]
def bytP (p : Int) : List Int := if 255 < p then [p / 256, p % 256] else [p]
def ctlB (c : Int) : Bool := c == 32 || (c == 8 || (c == 10 || (c == 12 || c == 13)))
/-- whether a scalar has a normal form -/
def has18 (c : Int) : Bool := ctlB c || ((findS16 103 c).2 || ((accS c).2.2 || tabSets.any fun s => (findS16 s c).2))
/-- a scalar's bytes while the set g is in G0, and which one is there then -/
def oneP (g c : Int) : Option (List Int × Int) :=
  if ctlB c = true then some ([c], g)
  else if (findS16 g c).2 = true then some (bytP (findS16 g c).1, g)
  else if (findS16 103 c).2 = true then some ([(findS16 103 c).1 + 128], g)
  else if (accS c).2.2 = true then
    (if (accS c).2.1 = 32 ∨ g = 102 ∨ g = 6 then some ([(accS c).1 + 128, (accS c).2.1], g) else some (escP 0 102 ++ [(accS c).1 + 128, (accS c).2.1], 102))
  else if (fndI (fun s => (findS16 s c).2) tabSets).2 = true then
    some (escP 0 (fndI (fun s => (findS16 s c).2) tabSets).1 ++ bytP (findS16 (fndI (fun s => (findS16 s c).2) tabSets).1 c).1, (fndI (fun s => (findS16 s c).2) tabSets).1)
  else none
/-- the normal form, or which one has none -/
def putF : Int → List Int → List Int ⊕ Nat
  | _, [] => .inl []
  | g, c :: r =>
    match oneP g c with
    | none => .inr 0
    | some (b, h) =>
      match putF h r with
      | .inl l => .inl (b ++ l)
      | .inr i => .inr (i + 1)
def put18 (s : List Int) : List Int ⊕ Nat := putF 102 s
def rdG (g : Int) : Rd := ⟨[g, 0, 103, 0], 0, 2⟩

theorem mean_one {t : Int × Int} {c : Int} (R : List (Int × Int)) (h : (t.1 = 0 ∧ t.2 = c) ∨ (t.1 ≠ 0 ∧ getS16 t.1 t.2 = (c, true))) : meanS (t :: R) = consM 1 c (meanS R) := by
  cases R with
  | nil =>
    rcases h with ⟨h1, h2⟩ | ⟨h1, h2⟩
    · simp only [meanS, if_pos h1, consM, h2]
    · simp only [meanS, if_neg h1, h2, if_true, consM]
  | cons n q =>
    rcases h with ⟨h1, h2⟩ | ⟨h1, h2⟩
    · simp only [meanS, if_pos h1, h2]
    · simp only [meanS, if_neg h1, h2, if_true]
theorem mean_alone {q m lone : Int} (R : List (Int × Int)) (h1 : (getS16 103 q).2 = false) (h2 : markS q = (m, lone, true)) : meanS ((103, q) :: (0, 32) :: R) = consM 2 lone (meanS R) := by
  simp [meanS, h1, h2]
theorem mean_pair {q m lone g p le c : Int} (R : List (Int × Int)) (h1 : (getS16 103 q).2 = false) (h2 : markS q = (m, lone, true)) (hg : g = 102 ∨ g = 6) (h3 : getS16 g p = (le, true)) (h4 : letB le = true) (h5 : pairS le m = (c, true)) : meanS ((103, q) :: (g, p) :: R) = consM 2 c (meanS R) := by
  have hg0 : g ≠ 0 := by omega
  simp [meanS, h1, h2, hg0, hg, h3, h4, h5]

theorem tk_ctl {st : Rd} {c : Int} (r : List Int) (h : ctlB c = true) : tkS st (c :: r) = .inl ([(0, c)], 1, st) := by
  unfold ctlB at h
  simp only [Bool.or_eq_true, beq_iff_eq] at h
  simp only [tkS, if_pos h]
theorem tk_left {st : Rd} {set p : Int} (r : List Int) (hs : st.g.getD st.left 0 = set) (h0 : set ≠ 0) (h87 : set ≠ 87) (h1 : 33 ≤ p) (h2 : p ≤ 126) : tkS st (p :: r) = .inl ([(set, p)], 1, st) := by
  have e1 : ¬ (p = 32 ∨ p = 8 ∨ p = 10 ∨ p = 12 ∨ p = 13) := by omega
  have e2 : ¬ (p = 14 ∨ p = 15) := by omega
  have e3 : ¬ (p = 27) := by omega
  have e4 : ¬ (p = 25 ∨ p = 29) := by omega
  have e5 : (33 ≤ p ∧ p ≤ 126) ∨ (161 ≤ p ∧ p ≤ 254) := by omega
  have e6 : ¬ (126 < p) := by omega
  have e7 : sdS p = 0 := by unfold sdS; rw [if_neg (by omega)]
  have e8 : 33 ≤ p ∧ p ≤ 126 := ⟨h1, h2⟩
  simp only [tkS, if_neg e1, if_neg e2, if_neg e3, if_neg e4, if_pos e5, if_neg e6, plS, e7, Int.sub_zero, if_pos e8, hs, if_neg h0, if_pos h87]
theorem tk_left2 {st : Rd} {p q : Int} (r : List Int) (hs : st.g.getD st.left 0 = 87) (h1 : 33 ≤ p) (h2 : p ≤ 126) (h3 : 33 ≤ q) (h4 : q ≤ 126) : tkS st (p :: q :: r) = .inl ([(87, 256 * p + q)], 2, st) := by
  have e1 : ¬ (p = 32 ∨ p = 8 ∨ p = 10 ∨ p = 12 ∨ p = 13) := by omega
  have e2 : ¬ (p = 14 ∨ p = 15) := by omega
  have e3 : ¬ (p = 27) := by omega
  have e4 : ¬ (p = 25 ∨ p = 29) := by omega
  have e5 : (33 ≤ p ∧ p ≤ 126) ∨ (161 ≤ p ∧ p ≤ 254) := by omega
  have e6 : ¬ (126 < p) := by omega
  have e7 : sdS p = 0 := by unfold sdS; rw [if_neg (by omega)]
  have e8 : 33 ≤ p ∧ p ≤ 126 := ⟨h1, h2⟩
  have e9 : 33 ≤ q ∧ q ≤ 126 := ⟨h3, h4⟩
  have e10 : ¬ ((87 : Int) = 0) := by decide
  have e11 : ¬ ((87 : Int) ≠ 87) := by decide
  simp only [tkS, if_neg e1, if_neg e2, if_neg e3, if_neg e4, if_pos e5, if_neg e6, plS, e7, Int.sub_zero, if_pos e8, if_pos e9, hs, if_neg e10, if_neg e11]
theorem tk_right {st : Rd} {set p : Int} (r : List Int) (hs : st.g.getD st.right 0 = set) (h0 : set ≠ 0) (h87 : set ≠ 87) (h1 : 33 ≤ p) (h2 : p ≤ 126) : tkS st ((p + 128) :: r) = .inl ([(set, p)], 1, st) := by
  have e1 : ¬ (p + 128 = 32 ∨ p + 128 = 8 ∨ p + 128 = 10 ∨ p + 128 = 12 ∨ p + 128 = 13) := by omega
  have e2 : ¬ (p + 128 = 14 ∨ p + 128 = 15) := by omega
  have e3 : ¬ (p + 128 = 27) := by omega
  have e4 : ¬ (p + 128 = 25 ∨ p + 128 = 29) := by omega
  have e5 : (33 ≤ p + 128 ∧ p + 128 ≤ 126) ∨ (161 ≤ p + 128 ∧ p + 128 ≤ 254) := by omega
  have e6 : 126 < p + 128 := by omega
  have e7 : sdS (p + 128) = 128 := by unfold sdS; rw [if_pos (by omega)]
  have e8 : 33 ≤ p ∧ p ≤ 126 := ⟨h1, h2⟩
  simp only [tkS, if_neg e1, if_neg e2, if_neg e3, if_neg e4, if_pos e5, if_pos e6, plS, e7, Int.add_sub_cancel, if_pos e8, hs, if_neg h0, if_pos h87]
theorem fin_of {s : Int} (h : s ∈ tabSets ++ [103]) : byFinS (finalS s) (s == 87) = (s, true) ∧ 48 ≤ finalS s ∧ finalS s ≤ 126 := by
  have := List.all_eq_true.1 fin_ok s h
  unfold finOk at this
  simp only [Bool.and_eq_true, decide_eq_true_eq] at this
  exact this
theorem tk_esc {st : Rd} {set g : Int} (r : List Int) (hs : set ∈ tabSets ++ [103]) (h0 : 0 ≤ g) (h3 : g ≤ 3) : tkS st (escP g set ++ r) = .inl ([], (escP g set).length, ⟨st.g.set g.toNat set, st.left, st.right⟩) := by
  obtain ⟨hf, -, -⟩ := fin_of hs
  have e1 : 40 ≤ 40 + g ∧ 40 + g ≤ 43 := by omega
  have e2 : 40 + g - 40 = g := by omega
  by_cases h : set = 87
  · have e3 : (set == 87) = true := by simpa using h
    rw [e3] at hf
    unfold escP
    rw [if_pos h]
    simp [tkS, esS, hf, e1, e2]
  · have e3 : (set == 87) = false := by simpa using h
    rw [e3] at hf
    unfold escP
    rw [if_neg h]
    simp [tkS, esS, hf, e1, e2]
/-- one step, and nothing behind it -/
theorem tkF_one {st s : Rd} {b : List Int} {ts : List (Int × Int)} {n : Nat} (h : tkS st b = .inl (ts, n, s)) (hn : n = b.length) {f : Nat} (hf : b.length ≤ f) : tkF f st b = .inl (ts, s) := by
  have h2 := tk_ok h
  obtain ⟨g, rfl⟩ : ∃ g, f = g + 1 := ⟨f - 1, by omega⟩
  have hb : b ≠ [] := fun e => by rw [e] at h2; simp at h2; omega
  rw [tkF_step hb, h]
  simp only
  rw [hn, List.drop_length, tkF_nil]
  simp
theorem fndS_tt {p : Rg → Bool} {l : List Rg} (h : (fndS p l).2 = true) : (fndS p l).1 ∈ l ∧ p (fndS p l).1 = true := fndS_mem (Prod.ext rfl h)
/-- a row of the table of codes -/
theorem code_row {r : Rg} (h : r ∈ tabCodes) : getS16 r.f r.t = (r.v, true) ∧ (findS16 r.f r.v).2 = true ∧ ((r.f == 87) = decide (255 < r.t)) ∧ (33 ≤ r.t % 256 ∧ r.t % 256 ≤ 126) ∧ (r.t ≤ 255 ∨ (33 ≤ r.t / 256 ∧ r.t / 256 ≤ 126)) ∧ 0 ≤ r.t ∧ scalarB r.v = true ∧ inI r.f = true ∧ inI r.t = true := by
  have := List.all_eq_true.1 codes_ok r h
  unfold codeOk at this
  simp only [Bool.and_eq_true, decide_eq_true_eq, beq_iff_eq] at this
  obtain ⟨a1, a2, a3, a4, a5, a6, a7, ⟨⟨a8, a9⟩, a10⟩, a11, a12⟩ := this
  exact ⟨a1, a2, a5, a6, a7, a12, a4, a8, a9⟩
theorem codes_sets : (tabCodes.all fun r => (tabSets ++ [103]).contains r.f) = true := by decide +kernel
theorem code_set {r : Rg} (h : r ∈ tabCodes) : r.f ∈ tabSets ++ [103] := by
  have := List.all_eq_true.1 codes_sets r h
  simpa using this
theorem find_row {set c p : Int} (h : findS16 set c = (p, true)) : ∃ r ∈ tabCodes, r.f = set ∧ r.v = c ∧ r.t = p := by
  unfold findS16 at h
  simp only [Prod.mk.injEq] at h
  obtain ⟨h1, h2⟩ := fndS_tt (p := fun r : Rg => r.f == set && r.v == c) (l := tabCodes) h.2
  simp only [Bool.and_eq_true, beq_iff_eq] at h2
  exact ⟨_, h1, h2.1, h2.2, h.1⟩
theorem get_row {set p c : Int} (h : getS16 set p = (c, true)) : ∃ r ∈ tabCodes, r.f = set ∧ r.t = p ∧ r.v = c := by
  unfold getS16 at h
  simp only [Prod.mk.injEq] at h
  obtain ⟨h1, h2⟩ := fndS_tt (p := fun r : Rg => r.f == set && r.t == p) (l := tabCodes) h.2
  simp only [Bool.and_eq_true, beq_iff_eq] at h2
  exact ⟨_, h1, h2.1, h2.2, h.1⟩
/-- the bytes of a row's place are read as it, where its set is on the left -/
theorem tk_row {r : Rg} (h : r ∈ tabCodes) {st : Rd} (hs : st.g.getD st.left 0 = r.f) {f : Nat} (hf : 2 ≤ f) : tkF f st (bytP r.t) = .inl ([(r.f, r.t)], st) := by
  obtain ⟨-, -, h87, h1, h2, h0, -⟩ := code_row h
  have h00 : r.f ≠ 0 := fun e => by have := code_set h; rw [e] at this; exact absurd this (by decide)
  unfold bytP
  by_cases hw : 255 < r.t
  · rw [if_pos hw]
    have e87 : r.f = 87 := by
      have : (r.f == 87) = true := by rw [h87]; simpa using hw
      simpa using this
    have := tk_left2 (st := st) (p := r.t / 256) (q := r.t % 256) [] (by rw [hs, e87]) (by omega) (by omega) h1.1 h1.2
    rw [show 256 * (r.t / 256) + r.t % 256 = r.t by omega] at this
    rw [e87]
    exact tkF_one this rfl (by simpa using hf)
  · rw [if_neg hw]
    have e87 : r.f ≠ 87 := by
      have : (r.f == 87) = false := by rw [h87]; simpa using hw
      simpa using this
    exact tkF_one (tk_left [] hs h00 e87 (by omega) (by omega)) rfl (by simp; omega)
theorem set_ne {s : Int} (h : s ∈ tabSets) : s ∈ tabSets ++ [103] := List.mem_append_left _ h
theorem consM_two (k : Nat) (c : Int) (x : List Int ⊕ (Nat × Int)) : ∀ l, consM k c x = .inl l ↔ ∃ m, x = .inl m ∧ l = c :: m := fun l => by
  cases x with
  | inl m => simp [consM, eq_comm]
  | inr x => obtain ⟨i, e⟩ := x; simp [consM]
end Go.Proofs.YtildhebaikeknaaGreat

/-! TelMath -/
namespace Go.Proofs.YtildhebaikeknaaGreat

theorem eta2 {α : Type} {x : α × Bool} (h : x.2 = true) : x = (x.1, true) := by rw [← h]
theorem eta3 {α β : Type} {x : α × β × Bool} (h : x.2.2 = true) : x = (x.1, x.2.1, true) := by rw [← h]
theorem acc_place : (tabAccents.all fun r => decide (65 ≤ r.f ∧ r.f ≤ 79)) = true := by decide +kernel
theorem mark_row {q n lone : Int} (h : markS q = (n, lone, true)) : ∃ r ∈ tabAccents, r.f = q ∧ r.t = n ∧ r.v = lone := by
  unfold markS at h
  simp only [Prod.mk.injEq] at h
  obtain ⟨h1, h2⟩ := fndS_tt (p := fun r : Rg => r.f == q) (l := tabAccents) h.2.2
  exact ⟨_, h1, by simpa using h2, h.1, h.2.1⟩
def letOk (n : Nat) : Bool := decide (getS16 102 (n : Int) = ((n : Int), true)) && decide (getS16 6 (n : Int) = ((n : Int), true))
theorem let_rows : ((List.range 26).all fun n => letOk (65 + n) && letOk (97 + n)) = true := by decide +kernel
theorem let_get {le : Int} (h : letB le = true) : getS16 102 le = (le, true) ∧ getS16 6 le = (le, true) := by
  unfold letB at h
  rw [decide_eq_true_iff] at h
  have key : ∀ n : Nat, letOk n = true → getS16 102 (n : Int) = ((n : Int), true) ∧ getS16 6 (n : Int) = ((n : Int), true) := fun n hn => by
    unfold letOk at hn
    simpa using hn
  rcases h with h | h
  · have := List.all_eq_true.1 let_rows (le - 65).toNat (List.mem_range.2 (by omega))
    simp only [Bool.and_eq_true] at this
    have h2 := key _ this.1
    rwa [show ((65 + (le - 65).toNat : Nat) : Int) = le by omega] at h2
  · have := List.all_eq_true.1 let_rows (le - 97).toNat (List.mem_range.2 (by omega))
    simp only [Bool.and_eq_true] at this
    have h2 := key _ this.2
    rwa [show ((97 + (le - 97).toNat : Nat) : Int) = le by omega] at h2
theorem g_ne {g : Int} (h : g ∈ tabSets) : g ≠ 0 ∧ g ≠ 103 := by
  constructor
  · intro e; rw [e] at h; exact absurd h (by decide)
  · intro e; rw [e] at h; exact absurd h (by decide)
/-- an accent, and what stands behind it -/
theorem tkF_two {g q le : Int} (hq1 : 65 ≤ q) (hq2 : q ≤ 79) (h : (le = 32) ∨ (letB le = true ∧ g ≠ 0 ∧ g ≠ 87)) {f : Nat} (hf : 2 ≤ f) :
    tkF f (rdG g) [q + 128, le] = .inl ([(103, q), if le = 32 then (0, 32) else (g, le)], rdG g) := by
  have h1 : tkS (rdG g) [q + 128, le] = .inl ([(103, q)], 1, rdG g) := tk_right [le] (by rfl) (by decide) (by decide) (by omega) (by omega)
  obtain ⟨k, rfl⟩ : ∃ k, f = k + 1 := ⟨f - 1, by omega⟩
  rw [tkF_step (by simp), h1]
  simp only [List.drop_succ_cons, List.drop_zero]
  rcases h with rfl | ⟨hl, h0, h87⟩
  · rw [tkF_one (tk_ctl [] (by decide)) rfl (by simp; omega)]
    simp
  · unfold letB at hl
    rw [decide_eq_true_iff] at hl
    rw [tkF_one (tk_left (st := rdG g) (set := g) [] (by rfl) h0 h87 (by omega) (by omega)) rfl (by simp; omega), if_neg (by omega)]
    simp
theorem esc_read {g set : Int} (hs : set ∈ tabSets) {f : Nat} (hf : 4 ≤ f) : tkF f (rdG g) (escP 0 set) = .inl ([], rdG set) := by
  have h := tk_esc (st := rdG g) (g := 0) [] (set_ne hs) (by decide) (by decide)
  rw [List.append_nil] at h
  have hl : (escP 0 set).length ≤ 4 := by unfold escP; split <;> simp
  exact tkF_one h rfl (by omega)
/-- a scalar's bytes are read as tokens that mean it -/
theorem one_read {g h c : Int} {b : List Int} (hg : g ∈ tabSets) (ho : oneP g c = some (b, h)) : h ∈ tabSets ∧ ∃ T, tkF b.length (rdG g) b = .inl (T, rdG h) ∧ ∀ R, meanS (T ++ R) = consM T.length c (meanS R) := by
  obtain ⟨g0, g103⟩ := g_ne hg
  unfold oneP at ho
  by_cases h1 : ctlB c = true
  · rw [if_pos h1] at ho
    cases ho
    exact ⟨hg, [(0, c)], tkF_one (tk_ctl [] h1) rfl (Nat.le_refl _), fun R => mean_one R (.inl ⟨rfl, rfl⟩)⟩
  rw [if_neg h1] at ho
  by_cases h2 : (findS16 g c).2 = true
  · rw [if_pos h2] at ho
    cases ho
    obtain ⟨r, hr, hf, hv, ht⟩ := find_row (eta2 h2 : findS16 g c = ((findS16 g c).1, true))
    obtain ⟨hget, -⟩ := code_row hr
    rw [← ht]
    refine ⟨hg, [(r.f, r.t)], ?_, fun R => mean_one R (.inr ⟨by rw [hf]; exact g0, by rw [hget, hv]⟩)⟩
    have hk := tk_row hr (st := rdG g) (by rw [hf]; rfl) (f := (bytP r.t).length + 2) (by omega)
    rwa [tkF_fuel _ (bytP r.t).length _ _ (by omega) (Nat.le_refl _)] at hk
  rw [if_neg h2] at ho
  by_cases h3 : (findS16 103 c).2 = true
  · rw [if_pos h3] at ho
    cases ho
    obtain ⟨r, hr, hf, hv, ht⟩ := find_row (eta2 h3 : findS16 103 c = ((findS16 103 c).1, true))
    obtain ⟨hget, -, h87, hm, hd, h0, -⟩ := code_row hr
    have h255 : r.t ≤ 255 := by
      have : decide (255 < r.t) = false := by rw [← h87, hf]; rfl
      have := of_decide_eq_false this
      omega
    rw [← ht]
    exact ⟨hg, [(103, r.t)], tkF_one (tk_right (st := rdG g) [] (by rfl) (by decide) (by decide) (by omega) (by omega)) rfl (Nat.le_refl _), fun R => mean_one R (.inr ⟨(by decide : (103 : Int) ≠ 0), by rw [← hf, hget, hv]⟩)⟩
  rw [if_neg h3] at ho
  by_cases h4 : (accS c).2.2 = true
  · rw [if_pos h4] at ho
    obtain ⟨n, lone, hmk, -, -, hcase⟩ := acc_facts (show accS c = ((accS c).1, (accS c).2.1, true) from eta3 h4)
    obtain ⟨r, hr, hrf, -, -⟩ := mark_row hmk
    have hpl := List.all_eq_true.1 acc_place r hr
    rw [decide_eq_true_iff, hrf] at hpl
    have hno : (getS16 103 (accS c).1).2 = false := by rw [← hrf]; exact (acc_row hr).2.1
    generalize (accS c).1 = q at ho hmk hpl hno
    generalize (accS c).2.1 = le at ho hcase
    have mean : ∀ k, (k = 102 ∨ k = 6 ∨ le = 32) → ∀ R, meanS ([(103, q), if le = 32 then (0, 32) else (k, le)] ++ R) = consM 2 c (meanS R) := fun k hk R => by
      rcases hcase with ⟨rfl, rfl⟩ | ⟨hne, hp, hl, -⟩
      · rw [if_pos rfl]
        exact mean_alone R hno hmk
      · rw [if_neg hne]
        have hk' : k = 102 ∨ k = 6 := by omega
        refine mean_pair R hno hmk hk' (le := le) ?_ hl hp
        rcases hk' with rfl | rfl
        · exact (let_get hl).1
        · exact (let_get hl).2
    have hle : ∀ k : Int, k ≠ 0 → k ≠ 87 ∨ le = 32 → (le = 32) ∨ (letB le = true ∧ k ≠ 0 ∧ k ≠ 87) := fun k hk0 hk => by
      rcases hcase with ⟨h, -⟩ | ⟨hne, -, hl, -⟩
      · exact .inl h
      · exact .inr ⟨hl, hk0, by omega⟩
    by_cases h5 : le = 32 ∨ g = 102 ∨ g = 6
    · rw [if_pos h5] at ho
      cases ho
      exact ⟨hg, _, tkF_two hpl.1 hpl.2 (hle g g0 (by omega)) (Nat.le_refl _), mean g (by omega)⟩
    · rw [if_neg h5] at ho
      cases ho
      refine ⟨by decide, _, ?_, mean 102 (.inl rfl)⟩
      have hl4 : (escP 0 102).length = 3 := rfl
      have h6 := tkF_app (escP 0 102).length (rdG g) (rdG 102) (escP 0 102) [q + 128, le] [] (Nat.le_refl _) (by rw [hl4, ← tkF_fuel 4 3 _ _ (by rw [hl4]; omega) (by rw [hl4]; omega)]; exact esc_read (by decide) (by omega)) (escP 0 102 ++ [q + 128, le]).length (Nat.le_refl _)
      rw [h6, tkF_two hpl.1 hpl.2 (hle 102 (by decide) (.inl (by decide))) (by simp)]
      rfl
  rw [if_neg h4] at ho
  by_cases h5 : (fndI (fun s => (findS16 s c).2) tabSets).2 = true
  · rw [if_pos h5] at ho
    obtain ⟨hm, hp⟩ := fndI_mem (p := fun s => (findS16 s c).2) (l := tabSets) (eta2 h5 : fndI (fun s => (findS16 s c).2) tabSets = ((fndI (fun s => (findS16 s c).2) tabSets).1, true))
    generalize (fndI (fun s => (findS16 s c).2) tabSets).1 = s at ho hm hp
    injection ho with ho
    simp only [Prod.mk.injEq] at ho
    obtain ⟨rfl, rfl⟩ := ho
    obtain ⟨r, hr, hf, hv, ht⟩ := find_row (eta2 hp : findS16 s c = ((findS16 s c).1, true))
    obtain ⟨hget, -⟩ := code_row hr
    rw [← ht]
    refine ⟨hm, [(r.f, r.t)], ?_, fun R => mean_one R (.inr ⟨by rw [hf]; exact (g_ne hm).1, by rw [hget, hv]⟩)⟩
    have hl4 : (escP 0 s).length ≤ 4 := by unfold escP; split <;> simp
    have h6 := tkF_app 4 (rdG g) (rdG s) (escP 0 s) (bytP r.t) [] hl4 (esc_read hm (Nat.le_refl _)) ((escP 0 s ++ bytP r.t).length + 2) (by omega)
    rw [tk_row hr (st := rdG s) (by rw [hf]; rfl) (by omega)] at h6
    rwa [tkF_fuel _ (escP 0 s ++ bytP r.t).length _ _ (by omega) (Nat.le_refl _)] at h6
  · rw [if_neg h5] at ho
    cases ho
theorem put_read : ∀ (s : List Int) (g : Int) (b : List Int), g ∈ tabSets → putF g s = .inl b → ∃ T h, tkF b.length (rdG g) b = .inl (T, rdG h) ∧ meanS T = .inl s
  | [], g, b, _, h => by
    cases h
    exact ⟨[], g, tkF_nil _ _, rfl⟩
  | c :: r, g, b, hg, h => by
    rw [putF] at h
    cases ho : oneP g c with
    | none => rw [ho] at h; cases h
    | some x =>
      obtain ⟨p, k⟩ := x
      rw [ho] at h
      simp only at h
      cases hp : putF k r with
      | inr i => rw [hp] at h; cases h
      | inl l =>
        rw [hp] at h
        cases h
        obtain ⟨hk, T, h1, h2⟩ := one_read hg ho
        obtain ⟨T2, h', h3, h4⟩ := put_read r k l hk hp
        refine ⟨T ++ T2, h', ?_, by rw [h2, h4]; rfl⟩
        rw [tkF_app p.length (rdG g) (rdG k) p l T (Nat.le_refl _) h1 _ (Nat.le_refl _), tkF_fuel _ l.length _ _ (by simp) (Nat.le_refl _), h3]
theorem read_put {s b : List Int} (h : put18 s = .inl b) : read18 b = .inl s := by
  obtain ⟨T, k, h1, h2⟩ := put_read s 102 b (by decide) h
  unfold read18 tokS
  rw [show rd0 = rdG 102 from rfl, h1]
  exact h2
/-- a scalar has a normal form whatever stands in G0 -/
theorem one_has {g c : Int} (hg : g ∈ tabSets) : (oneP g c).isSome = has18 c := by
  have hfi : (fndI (fun s => (findS16 s c).2) tabSets).2 = tabSets.any fun s => (findS16 s c).2 := by
    have key : ∀ l : List Int, (fndI (fun s => (findS16 s c).2) l).2 = l.any fun s => (findS16 s c).2 := fun l => by
      induction l with
      | nil => rfl
      | cons x l ih =>
        rw [fndI, List.any_cons]
        by_cases hx : (findS16 x c).2 = true
        · rw [if_pos hx, hx]; rfl
        · rw [if_neg hx, ih, Bool.eq_false_iff.2 hx]; rfl
    exact key _
  unfold oneP has18
  by_cases h1 : ctlB c = true
  · rw [if_pos h1, h1]; rfl
  rw [if_neg h1, Bool.eq_false_iff.2 h1]
  by_cases h2 : (findS16 g c).2 = true
  · rw [if_pos h2]
    have : (tabSets.any fun s => (findS16 s c).2) = true := List.any_eq_true.2 ⟨g, hg, h2⟩
    rw [this]
    simp
  rw [if_neg h2]
  by_cases h3 : (findS16 103 c).2 = true
  · rw [if_pos h3, h3]; rfl
  rw [if_neg h3, Bool.eq_false_iff.2 h3]
  by_cases h4 : (accS c).2.2 = true
  · rw [if_pos h4, h4]
    split <;> rfl
  rw [if_neg h4, Bool.eq_false_iff.2 h4]
  by_cases h5 : (fndI (fun s => (findS16 s c).2) tabSets).2 = true
  · rw [if_pos h5, ← hfi, h5]; rfl
  · rw [if_neg h5, ← hfi, Bool.eq_false_iff.2 h5]; rfl
/-- where the first scalar stands that has no normal form -/
def badAt : List Int → Option Nat
  | [] => none
  | c :: r => if has18 c = true then (badAt r).map (· + 1) else some 0
theorem put_bad18 : ∀ (s : List Int) (g : Int), g ∈ tabSets → (match putF g s with | .inl _ => badAt s = none | .inr i => badAt s = some i)
  | [], g, _ => rfl
  | c :: r, g, hg => by
    have ho := one_has (c := c) hg
    rw [putF, badAt]
    cases hp : oneP g c with
    | none =>
      rw [hp] at ho
      rw [← ho]
      rfl
    | some x =>
      obtain ⟨p, k⟩ := x
      rw [hp] at ho
      rw [← ho]
      have ih := put_bad18 r k (one_read hg hp).1
      simp only [Option.isSome_some, if_true]
      cases hq : putF k r with
      | inl l => rw [hq] at ih; simp only at ih ⊢; rw [ih]; rfl
      | inr i => rw [hq] at ih; simp only at ih ⊢; rw [ih]; rfl
/-- what a token of no set may be -/
def TokOk (t : Int × Int) : Prop := t.1 = 0 → ctlB t.2 = true
theorem pl_tok {set : Int} {b : List Int} {t : Int × Int} {n : Nat} (h : plS set b = .inl (t, n)) : TokOk t := by
  match b with
  | [] => cases h
  | [c] =>
    revert h
    simp only [plS]
    repeat' split
    all_goals (intro h; first | (cases h; done) | (rename_i h0 _; injection h with h; injection h with h _; subst h; exact fun e => absurd e h0))
  | c :: d :: r =>
    revert h
    simp only [plS]
    repeat' split
    all_goals (intro h; first | (cases h; done) | (injection h with h; injection h with h _; subst h; intro e; contradiction))
theorem tk_tok {st s : Rd} {b : List Int} {ts : List (Int × Int)} {n : Nat} (h : tkS st b = .inl (ts, n, s)) : ∀ t ∈ ts, TokOk t := by
  match b with
  | [] => cases h
  | c :: r =>
    revert h
    simp only [tkS]
    split
    · rename_i hc
      intro h
      cases h
      intro t ht
      simp only [List.mem_singleton] at ht
      subst ht
      intro _
      unfold ctlB
      simpa using hc
    split
    · intro h; cases h; intro t ht; cases ht
    split
    · cases he : esS st r with
      | inl x => obtain ⟨s', n'⟩ := x; intro h; cases h; intro t ht; cases ht
      | inr e => intro h; cases h
    split
    · cases he : plS (st.g.getD (if c = 29 then 3 else 2) 0) r with
      | inl x =>
        obtain ⟨t, n'⟩ := x
        intro h
        cases h
        intro t' ht
        simp only [List.mem_singleton] at ht
        subst ht
        exact pl_tok he
      | inr e => intro h; cases h
    split
    · cases he : plS (st.g.getD (if 126 < c then st.right else st.left) 0) (c :: r) with
      | inl x =>
        obtain ⟨t, n'⟩ := x
        intro h
        cases h
        intro t' ht
        simp only [List.mem_singleton] at ht
        subst ht
        exact pl_tok he
      | inr e => intro h; cases h
    · intro h; cases h
theorem tkF_tok : ∀ (f : Nat) (st s : Rd) (b : List Int) (l : List (Int × Int)), tkF f st b = .inl (l, s) → ∀ t ∈ l, TokOk t
  | 0, st, s, b, l, h => by
    cases h
    intro t ht
    cases ht
  | f + 1, st, s, b, l, h => by
    by_cases hb : b = []
    · rw [hb, tkF_nil] at h
      cases h
      intro t ht
      cases ht
    · rw [tkF_step hb] at h
      cases ht : tkS st b with
      | inr e => rw [ht] at h; cases h
      | inl x =>
        obtain ⟨ts, n, z⟩ := x
        rw [ht] at h
        simp only at h
        cases hr : tkF f z (b.drop n) with
        | inr x => rw [hr] at h; cases h
        | inl x =>
          obtain ⟨l', z'⟩ := x
          rw [hr] at h
          cases h
          intro t hm
          rcases List.mem_append.1 hm with hm | hm
          · exact tk_tok ht t hm
          · exact tkF_tok f z _ _ l' hr t hm
/-- what has a place has a normal form -/
theorem row_has {r : Rg} (h : r ∈ tabCodes) : has18 r.v = true := by
  obtain ⟨-, hfi, -⟩ := code_row h
  unfold has18
  rcases List.mem_append.1 (code_set h) with h1 | h1
  · have : (tabSets.any fun s => (findS16 s r.v).2) = true := List.any_eq_true.2 ⟨r.f, h1, hfi⟩
    rw [this]
    simp
  · simp only [List.mem_singleton] at h1
    rw [h1] at hfi
    rw [hfi]
    simp
theorem f_canon18 : (tabPair.all fun r => canonS r.f == [r.t, r.v]) = true := by decide +kernel
theorem pair_facts18 {a b c : Int} (h : pairS a b = (c, true)) : canonS c = [a, b] := by
  unfold pairS at h
  simp only [Prod.mk.injEq] at h
  obtain ⟨hm, hp⟩ := fndS_tt (p := fun r : Rg => r.t == a && r.v == b) (l := tabPair) h.2
  have hf := List.all_eq_true.1 f_canon18 _ hm
  simp only [Bool.and_eq_true, beq_iff_eq] at hf hp
  rw [hp.1, hp.2, h.1] at hf
  exact hf
theorem pair_has {q n lone le c : Int} (hm : markS q = (n, lone, true)) (hl : letB le = true) (hp : pairS le n = (c, true)) : has18 c = true := by
  obtain ⟨r, hr, hrf, hrt, -⟩ := mark_row hm
  have hc := (pair_facts18 hp)
  have : (accS c).2.2 = true := by
    unfold accS
    by_cases h1 : (fndS (fun r => r.v == c) tabAccents).2 = true
    · rw [if_pos h1]
    · rw [if_neg h1, hc]
      unfold accTwo
      rw [if_pos ⟨rfl, by simpa using hl⟩]
      simp only [List.getD_cons_zero, List.getD_cons_succ]
      rw [hp, if_pos (by simp)]
      have : (fndS (fun r : Rg => r.t == n) tabAccents).2 = true := by
        have key : ∀ l : List Rg, r ∈ l → (fndS (fun r : Rg => r.t == n) l).2 = true := fun l => by
          induction l with
          | nil => intro h; cases h
          | cons x l ih =>
            intro h
            rw [fndS]
            by_cases hx : (x.t == n) = true
            · rw [if_pos hx]
            · rw [if_neg hx]
              rcases List.mem_cons.1 h with rfl | h
              · exact absurd (by simpa using hrt) hx
              · exact ih h
        exact key _ hr
      rw [if_pos this]
  unfold has18
  rw [this]
  simp
theorem mean_has : ∀ (l : List (Int × Int)) (s : List Int), (∀ t ∈ l, TokOk t) → meanS l = .inl s → ∀ c ∈ s, has18 c = true
  | [], s, _, h => by
    cases h
    intro c hc
    cases hc
  | [t], s, ht, h => by
    simp only [meanS] at h
    by_cases h1 : t.1 = 0
    · rw [if_pos h1] at h
      cases h
      intro c hc
      simp only [List.mem_singleton] at hc
      subst hc
      unfold has18
      rw [ht t (by simp) h1]
      rfl
    rw [if_neg h1] at h
    by_cases h2 : (getS16 t.1 t.2).2 = true
    · rw [if_pos h2] at h
      cases h
      intro c hc
      simp only [List.mem_singleton] at hc
      subst hc
      obtain ⟨r, hr, -, -, hv⟩ := get_row (eta2 h2 : getS16 t.1 t.2 = ((getS16 t.1 t.2).1, true))
      rw [← hv]
      exact row_has hr
    rw [if_neg h2] at h
    by_cases h3 : t.1 = 103 ∧ (markS t.2).2.2 = true
    · rw [if_pos h3] at h; cases h
    · rw [if_neg h3] at h; cases h
  | t :: n :: q, s, ht, h => by
    have htn : ∀ t ∈ n :: q, TokOk t := fun x hx => ht x (List.mem_cons_of_mem _ hx)
    have htq : ∀ t ∈ q, TokOk t := fun x hx => htn x (List.mem_cons_of_mem _ hx)
    have add : ∀ k c x, has18 c = true → (∀ m, x = .inl m → ∀ d ∈ m, has18 d = true) → consM k c x = .inl s → ∀ d ∈ s, has18 d = true := fun k c x hc hx he => by
      obtain ⟨m, h1, h2⟩ := (consM_two k c x s).1 he
      intro d hd
      rw [h2] at hd
      rcases List.mem_cons.1 hd with rfl | hd
      · exact hc
      · exact hx m h1 d hd
    simp only [meanS] at h
    by_cases h1 : t.1 = 0
    · rw [if_pos h1] at h
      refine add 1 t.2 _ ?_ (fun m hm => mean_has (n :: q) m htn hm) h
      unfold has18
      rw [ht t (by simp) h1]
      rfl
    rw [if_neg h1] at h
    by_cases h2 : (getS16 t.1 t.2).2 = true
    · rw [if_pos h2] at h
      refine add 1 _ _ ?_ (fun m hm => mean_has (n :: q) m htn hm) h
      obtain ⟨r, hr, -, -, hv⟩ := get_row (eta2 h2 : getS16 t.1 t.2 = ((getS16 t.1 t.2).1, true))
      rw [← hv]
      exact row_has hr
    rw [if_neg h2] at h
    by_cases h3 : t.1 = 103 ∧ (markS t.2).2.2 = true
    · rw [if_pos h3] at h
      have hmk : markS t.2 = ((markS t.2).1, (markS t.2).2.1, true) := eta3 h3.2
      by_cases h4 : n.1 = 0 ∧ n.2 = 32
      · rw [if_pos h4] at h
        refine add 2 _ _ ?_ (fun m hm => mean_has q m htq hm) h
        obtain ⟨r, hr, -, -, hv⟩ := mark_row hmk
        have := (acc_row hr).2.2.1
        rw [hv] at this
        unfold has18
        rw [this]
        simp
      rw [if_neg h4] at h
      by_cases h5 : (n.1 = 102 ∨ n.1 = 6) ∧ (getS16 n.1 n.2).2 = true ∧ letB (getS16 n.1 n.2).1 = true ∧ (pairS (getS16 n.1 n.2).1 (markS t.2).1).2 = true
      · rw [if_pos h5] at h
        exact add 2 _ _ (pair_has hmk h5.2.2.1 (eta2 h5.2.2.2)) (fun m hm => mean_has q m htq hm) h
      · rw [if_neg h5] at h; cases h
    · rw [if_neg h3] at h; cases h
theorem read_has {b s : List Int} (h : read18 b = .inl s) : ∀ c ∈ s, has18 c = true := by
  unfold read18 tokS at h
  cases ht : tkF b.length rd0 b with
  | inr x => rw [ht] at h; cases h
  | inl x =>
    obtain ⟨l, z⟩ := x
    rw [ht] at h
    exact mean_has l s (tkF_tok _ _ _ _ _ ht) h
theorem bad_none : ∀ s : List Int, badAt s = none ↔ ∀ c ∈ s, has18 c = true
  | [] => by simp [badAt]
  | c :: r => by
    rw [badAt]
    by_cases h : has18 c = true
    · rw [if_pos h, Option.map_eq_none_iff, bad_none r]
      simp [h]
    · rw [if_neg h]
      simp [h]
theorem put_all18 {s : List Int} (h : ∀ c ∈ s, has18 c = true) : ∃ b, put18 s = .inl b := by
  have hb := put_bad18 s 102 (by decide)
  rw [(bad_none s).2 h] at hb
  unfold put18
  cases hp : putF 102 s with
  | inl b => exact ⟨b, rfl⟩
  | inr i => rw [hp] at hb; cases hb
end Go.Proofs.YtildhebaikeknaaGreat

/-! TelFin -/
namespace Go.Proofs.YtildhebaikeknaaGreat

theorem Sl.cap_ge18 {k : IntKind} {w : World} {a : Option Addr} {n c : Nat} {l : List Int} (h : Sl k w (.slice a n c) l) : l.length ≤ c := by
  obtain ⟨a', cap, hv, hl, -⟩ := h
  injection hv with h1 h2 h3
  omega
theorem esc_u8 {g s : Int} (h0 : 0 ≤ g) (h3 : g ≤ 3) (hs : s ∈ tabSets ++ [103]) : U8 (escP g s) := by
  obtain ⟨-, h1, h2⟩ := fin_of hs
  unfold escP
  intro x hx
  split at hx
  · simp only [List.mem_cons, List.not_mem_nil, or_false] at hx
    omega
  · simp only [List.mem_cons, List.not_mem_nil, or_false] at hx
    omega
theorem byt_u8 {r : Rg} (h : r ∈ tabCodes) : U8 (bytP r.t) := by
  obtain ⟨-, -, -, h1, h2, h0, -⟩ := code_row h
  unfold bytP
  intro x hx
  split at hx
  · simp only [List.mem_cons, List.not_mem_nil, or_false] at hx
    omega
  · simp only [List.mem_cons, List.not_mem_nil, or_false] at hx
    omega
theorem esc_len (g s : Int) : (escP g s).length ≤ 4 := by unfold escP; split <;> simp
theorem byt_len (p : Int) : (bytP p).length ≤ 2 := by unfold bytP; split <;> simp
theorem one_u8 {g h c : Int} {b : List Int} (ho : oneP g c = some (b, h)) : U8 b ∧ b.length ≤ 6 := by
  unfold oneP at ho
  by_cases h1 : ctlB c = true
  · rw [if_pos h1] at ho
    cases ho
    unfold ctlB at h1
    simp only [Bool.or_eq_true, beq_iff_eq] at h1
    refine ⟨fun x hx => ?_, by simp⟩
    simp only [List.mem_singleton] at hx
    omega
  rw [if_neg h1] at ho
  by_cases h2 : (findS16 g c).2 = true
  · rw [if_pos h2] at ho
    cases ho
    obtain ⟨r, hr, hf, hv, ht⟩ := find_row (eta2 h2 : findS16 g c = ((findS16 g c).1, true))
    rw [← ht]
    have := byt_len r.t
    exact ⟨byt_u8 hr, by omega⟩
  rw [if_neg h2] at ho
  by_cases h3 : (findS16 103 c).2 = true
  · rw [if_pos h3] at ho
    cases ho
    obtain ⟨r, hr, hf, hv, ht⟩ := find_row (eta2 h3 : findS16 103 c = ((findS16 103 c).1, true))
    obtain ⟨-, -, h87, hm, hd, h0, -⟩ := code_row hr
    have h255 : r.t ≤ 255 := by
      have : decide (255 < r.t) = false := by rw [← h87, hf]; rfl
      have := of_decide_eq_false this
      omega
    rw [← ht]
    refine ⟨fun x hx => ?_, by simp⟩
    simp only [List.mem_singleton] at hx
    omega
  rw [if_neg h3] at ho
  by_cases h4 : (accS c).2.2 = true
  · rw [if_pos h4] at ho
    obtain ⟨n, lone, hmk, -, -, hcase⟩ := acc_facts (show accS c = ((accS c).1, (accS c).2.1, true) from eta3 h4)
    obtain ⟨r, hr, hrf, -, -⟩ := mark_row hmk
    have hpl := List.all_eq_true.1 acc_place r hr
    rw [decide_eq_true_iff, hrf] at hpl
    generalize (accS c).1 = q at ho hpl
    generalize (accS c).2.1 = le at ho hcase
    have hle : 0 ≤ le ∧ le ≤ 255 := by
      rcases hcase with ⟨h, -⟩ | ⟨-, -, hl, -⟩
      · omega
      · unfold letB at hl
        rw [decide_eq_true_iff] at hl
        omega
    have hu : U8 [q + 128, le] := fun x hx => by
      simp only [List.mem_cons, List.not_mem_nil, or_false] at hx
      omega
    by_cases h5 : le = 32 ∨ g = 102 ∨ g = 6
    · rw [if_pos h5] at ho
      cases ho
      exact ⟨hu, by simp⟩
    · rw [if_neg h5] at ho
      cases ho
      exact ⟨(esc_u8 (by decide) (by decide) (by decide)).append hu, by rw [List.length_append]; have := esc_len 0 102; simp; omega⟩
  rw [if_neg h4] at ho
  by_cases h5 : (fndI (fun s => (findS16 s c).2) tabSets).2 = true
  · rw [if_pos h5] at ho
    obtain ⟨hm, hp⟩ := fndI_mem (p := fun s => (findS16 s c).2) (l := tabSets) (eta2 h5 : fndI (fun s => (findS16 s c).2) tabSets = ((fndI (fun s => (findS16 s c).2) tabSets).1, true))
    generalize (fndI (fun s => (findS16 s c).2) tabSets).1 = s at ho hm hp
    injection ho with ho
    simp only [Prod.mk.injEq] at ho
    obtain ⟨rfl, rfl⟩ := ho
    obtain ⟨r, hr, hf, hv, ht⟩ := find_row (eta2 hp : findS16 s c = ((findS16 s c).1, true))
    rw [← ht]
    exact ⟨(esc_u8 (by decide) (by decide) (set_ne hm)).append (byt_u8 hr), by rw [List.length_append]; have := esc_len 0 s; have := byt_len r.t; omega⟩
  · rw [if_neg h5] at ho
    cases ho
theorem putF_u8 : ∀ (s : List Int) (g : Int) (b : List Int), putF g s = .inl b → U8 b ∧ b.length ≤ 6 * s.length
  | [], g, b, h => by
    cases h
    exact ⟨U8.nil, by simp⟩
  | c :: r, g, b, h => by
    rw [putF] at h
    cases ho : oneP g c with
    | none => rw [ho] at h; cases h
    | some x =>
      obtain ⟨p, k⟩ := x
      rw [ho] at h
      simp only at h
      cases hp : putF k r with
      | inr i => rw [hp] at h; cases h
      | inl l =>
        rw [hp] at h
        cases h
        obtain ⟨h1, h2⟩ := one_u8 ho
        obtain ⟨h3, h4⟩ := putF_u8 r k l hp
        exact ⟨h1.append h3, by rw [List.length_append, List.length_cons]; omega⟩
theorem put_bytes18 {s b : List Int} (h : put18 s = .inl b) : U8 b := (putF_u8 s 102 b h).1
theorem put_len18 {s b : List Int} (h : put18 s = .inl b) : b.length ≤ 6 * s.length := (putF_u8 s 102 b h).2
theorem bad_at : ∀ (s : List Int) (k : Nat), badAt s = some k → k < s.length ∧ has18 (s.getD k 0) = false ∧ ∀ i, i < k → has18 (s.getD i 0) = true
  | [], k, h => by cases h
  | c :: r, k, h => by
    rw [badAt] at h
    by_cases hc : has18 c = true
    · rw [if_pos hc] at h
      obtain ⟨j, hj, rfl⟩ := Option.map_eq_some_iff.1 h
      obtain ⟨h1, h2, h3⟩ := bad_at r j hj
      refine ⟨by simpa using h1, by simpa using h2, fun i hi => ?_⟩
      cases i with
      | zero => simpa using hc
      | succ i => simpa using h3 i (by omega)
    · rw [if_neg hc] at h
      cases h
      exact ⟨by simp, by simpa using hc, fun i hi => absurd hi (by omega)⟩
theorem put_first18 {s : List Int} {k : Nat} (h : put18 s = .inr k) : k < s.length ∧ has18 (s.getD k 0) = false := by
  have hb := put_bad18 s 102 (by decide)
  unfold put18 at h
  rw [h] at hb
  obtain ⟨h1, h2, -⟩ := bad_at s k hb
  exact ⟨h1, h2⟩
theorem put_firsts18 {s : List Int} {k : Nat} (h : put18 s = .inr k) : k < s.length ∧ has18 (s.getD k 0) = false ∧ ∀ i, i < k → has18 (s.getD i 0) = true := by
  have hb := put_bad18 s 102 (by decide)
  unfold put18 at h
  rw [h] at hb
  exact bad_at s k hb
theorem put_has18 {s b : List Int} (h : put18 s = .inl b) {j : Nat} (hj : j < s.length) : has18 (s.getD j 0) = true := by
  have hb := put_bad18 s 102 (by decide)
  unfold put18 at h
  rw [h] at hb
  have e : s.getD j 0 = s[j] := by rw [List.getD_eq_getElem?_getD, List.getElem?_eq_getElem hj]; rfl
  rw [e]
  exact (bad_none s).1 hb _ (List.getElem_mem hj)
theorem tk_few {st s : Rd} {b : List Int} {ts : List (Int × Int)} {n : Nat} (h : tkS st b = .inl (ts, n, s)) : ts.length ≤ n := by
  have hn := tk_ok h
  suffices ts.length ≤ 1 by omega
  match b with
  | [] => cases h
  | c :: r =>
    revert h
    simp only [tkS]
    split
    · intro h; cases h; simp
    split
    · intro h; cases h; simp
    split
    · cases esS st r with
      | inl x => obtain ⟨s', n'⟩ := x; intro h; cases h; simp
      | inr e => intro h; cases h
    split
    · cases plS (st.g.getD (if c = 29 then 3 else 2) 0) r with
      | inl x => obtain ⟨t, n'⟩ := x; intro h; cases h; simp
      | inr e => intro h; cases h
    split
    · cases plS (st.g.getD (if 126 < c then st.right else st.left) 0) (c :: r) with
      | inl x => obtain ⟨t, n'⟩ := x; intro h; cases h; simp
      | inr e => intro h; cases h
    · intro h; cases h
theorem pl_err {set e : Int} {b : List Int} (h : plS set b = .inr e) : e ≠ 0 := by
  match b with
  | [] => cases h; decide
  | [c] =>
    revert h
    simp only [plS]
    repeat' split
    all_goals (intro h; first | (cases h; done) | (injection h with h; subst h; decide))
  | c :: d :: r =>
    revert h
    simp only [plS]
    repeat' split
    all_goals (intro h; first | (cases h; done) | (injection h with h; subst h; decide))
theorem es_err {st : Rd} {e : Int} {b : List Int} (h : esS st b = .inr e) : e ≠ 0 := by
  match b with
  | [] => cases h; decide
  | [c] =>
    revert h
    simp only [esS]
    repeat' split
    all_goals (intro h; first | (cases h; done) | (injection h with h; subst h; decide))
  | [c, d] =>
    revert h
    simp only [esS]
    repeat' split
    all_goals (intro h; first | (cases h; done) | (injection h with h; subst h; decide))
  | c :: d :: f :: r =>
    revert h
    simp only [esS]
    repeat' split
    all_goals (intro h; first | (cases h; done) | (injection h with h; subst h; decide))
theorem tk_err {st : Rd} {e : Int} {b : List Int} (h : tkS st b = .inr e) : e ≠ 0 := by
  match b with
  | [] => cases h; decide
  | c :: r =>
    revert h
    simp only [tkS]
    split
    · intro h; cases h
    split
    · intro h; cases h
    split
    · cases he : esS st r with
      | inl x => obtain ⟨s', n'⟩ := x; intro h; cases h
      | inr e' => intro h; injection h with h; subst h; exact es_err he
    split
    · cases he : plS (st.g.getD (if c = 29 then 3 else 2) 0) r with
      | inl x => obtain ⟨t, n'⟩ := x; intro h; cases h
      | inr e' => intro h; injection h with h; subst h; exact pl_err he
    split
    · cases he : plS (st.g.getD (if 126 < c then st.right else st.left) 0) (c :: r) with
      | inl x => obtain ⟨t, n'⟩ := x; intro h; cases h
      | inr e' => intro h; injection h with h; subst h; exact pl_err he
    · intro h; injection h with h; subst h; decide
theorem tkF_err : ∀ (f : Nat) (st : Rd) (b : List Int) (i : Nat) (e : Int), tkF f st b = .inr (i, e) → e ≠ 0
  | 0, st, b, i, e, h => by cases h
  | f + 1, st, b, i, e, h => by
    by_cases hb : b = []
    · rw [hb, tkF_nil] at h; cases h
    · rw [tkF_step hb] at h
      cases ht : tkS st b with
      | inr e' =>
        rw [ht] at h
        injection h with h
        simp only [Prod.mk.injEq] at h
        rw [← h.2]
        exact tk_err ht
      | inl x =>
        obtain ⟨ts, n, z⟩ := x
        rw [ht] at h
        simp only at h
        cases hr : tkF f z (b.drop n) with
        | inl x => obtain ⟨l', z'⟩ := x; rw [hr] at h; cases h
        | inr x =>
          obtain ⟨i', e'⟩ := x
          rw [hr] at h
          injection h with h
          simp only [Prod.mk.injEq] at h
          rw [← h.2]
          exact tkF_err f z _ i' e' hr
theorem mean_err : ∀ (l : List (Int × Int)) (i : Nat) (e : Int), meanS l = .inr (i, e) → e ≠ 0
  | [], i, e, h => by cases h
  | [t], i, e, h => by
    simp only [meanS] at h
    split at h
    · cases h
    · split at h
      · cases h
      · split at h <;> (injection h with h; simp only [Prod.mk.injEq] at h; omega)
  | t :: n :: q, i, e, h => by
    have add : ∀ k c x, (∀ j e', x = .inr (j, e') → e' ≠ 0) → consM k c x = .inr (i, e) → e ≠ 0 := fun k c x hx he => by
      cases x with
      | inl m => cases he
      | inr y =>
        obtain ⟨j, e'⟩ := y
        injection he with he
        simp only [Prod.mk.injEq] at he
        rw [← he.2]
        exact hx j e' rfl
    have h1 : ∀ j e', meanS (n :: q) = .inr (j, e') → e' ≠ 0 := fun j e' hm => mean_err (n :: q) j e' hm
    have h2 : ∀ j e', meanS q = .inr (j, e') → e' ≠ 0 := fun j e' hm => mean_err q j e' hm
    simp only [meanS] at h
    split at h
    · exact add _ _ _ h1 h
    split at h
    · exact add _ _ _ h1 h
    split at h
    · split at h
      · exact add _ _ _ h2 h
      · split at h
        · exact add _ _ _ h2 h
        · injection h with h; simp only [Prod.mk.injEq] at h; omega
    · injection h with h; simp only [Prod.mk.injEq] at h; omega
/-- tokens are no more than bytes -/
theorem tkF_len : ∀ (f : Nat) (st s : Rd) (b : List Int) (l : List (Int × Int)), tkF f st b = .inl (l, s) → l.length ≤ b.length
  | 0, st, s, b, l, h => by
    cases h
    simp
  | f + 1, st, s, b, l, h => by
    by_cases hb : b = []
    · rw [hb, tkF_nil] at h
      cases h
      simp
    · rw [tkF_step hb] at h
      cases ht : tkS st b with
      | inr e => rw [ht] at h; cases h
      | inl x =>
        obtain ⟨ts, n, z⟩ := x
        rw [ht] at h
        simp only at h
        cases hr : tkF f z (b.drop n) with
        | inr x => rw [hr] at h; cases h
        | inl x =>
          obtain ⟨l', z'⟩ := x
          rw [hr] at h
          cases h
          have h1 := tkF_len f z _ _ l' hr
          have h2 := tk_ok ht
          have h3 := tk_few ht
          rw [List.length_drop] at h1
          rw [List.length_append]
          omega
theorem mean_len : ∀ (l : List (Int × Int)) (s : List Int), meanS l = .inl s → s.length ≤ l.length
  | [], s, h => by cases h; simp
  | [t], s, h => by
    simp only [meanS] at h
    split at h
    · cases h; simp
    · split at h
      · cases h; simp
      · split at h <;> cases h
  | t :: n :: q, s, h => by
    have add : ∀ k c x, (∀ m, x = .inl m → m.length + 1 ≤ (t :: n :: q).length) → consM k c x = .inl s → s.length ≤ (t :: n :: q).length := fun k c x hx he => by
      obtain ⟨m, h1, h2⟩ := (consM_two k c x s).1 he
      rw [h2, List.length_cons]
      exact hx m h1
    have h1 : ∀ m, meanS (n :: q) = .inl m → m.length + 1 ≤ (t :: n :: q).length := fun m hm => by have := mean_len (n :: q) m hm; simp only [List.length_cons] at this ⊢; omega
    have h2 : ∀ m, meanS q = .inl m → m.length + 1 ≤ (t :: n :: q).length := fun m hm => by have := mean_len q m hm; simp only [List.length_cons]; omega
    simp only [meanS] at h
    split at h
    · exact add _ _ _ h1 h
    split at h
    · exact add _ _ _ h1 h
    split at h
    · split at h
      · exact add _ _ _ h2 h
      · split at h
        · exact add _ _ _ h2 h
        · cases h
    · cases h
theorem read_len18 {b s : List Int} (h : read18 b = .inl s) : s.length ≤ b.length := by
  unfold read18 tokS at h
  cases ht : tkF b.length rd0 b with
  | inr x => rw [ht] at h; cases h
  | inl x =>
    obtain ⟨l, z⟩ := x
    rw [ht] at h
    have := mean_len l s h
    have := tkF_len _ _ _ _ _ ht
    omega
theorem has_codes : (tabCodes.all fun r => inI r.v) = true := by decide +kernel
theorem has_accs : (tabAccents.all fun r => inI r.v) = true := by decide +kernel
theorem has_pairs : (tabPair.all fun r => inI r.f) = true := by decide +kernel
/-- what has a normal form is an int -/
theorem has_in {c : Int} (h : has18 c = true) : inI c = true := by
  unfold has18 at h
  simp only [Bool.or_eq_true] at h
  have row : ∀ s, (findS16 s c).2 = true → inI c = true := fun s hs => by
    obtain ⟨r, hr, -, hv, -⟩ := find_row (eta2 hs : findS16 s c = ((findS16 s c).1, true))
    rw [← hv]
    exact List.all_eq_true.1 has_codes r hr
  rcases h with h | h | h | h
  · unfold ctlB at h
    simp only [Bool.or_eq_true, beq_iff_eq] at h
    rcases h with rfl | rfl | rfl | rfl | rfl <;> decide
  · exact row _ h
  · obtain ⟨n, lone, hmk, -, -, hcase⟩ := acc_facts (show accS c = ((accS c).1, (accS c).2.1, true) from eta3 h)
    rcases hcase with ⟨-, hl⟩ | ⟨-, hp, -⟩
    · obtain ⟨r, hr, -, -, hv⟩ := mark_row hmk
      rw [← hl, ← hv]
      exact List.all_eq_true.1 has_accs r hr
    · unfold pairS at hp
      simp only [Prod.mk.injEq] at hp
      obtain ⟨hm, -⟩ := fndS_tt (p := fun r : Rg => r.t == (accS c).2.1 && r.v == n) (l := tabPair) hp.2
      rw [← hp.1]
      exact List.all_eq_true.1 has_pairs _ hm
  · obtain ⟨s, -, hs⟩ := List.any_eq_true.1 h
    exact row s hs
theorem read_in18 {b s : List Int} (_ : U8 b) (h : read18 b = .inl s) : s.all inI = true := List.all_eq_true.2 fun c hc => has_in (read_has h c hc)
/-- an error is none of the numbers that tell no error -/
theorem read_err18 {b : List Int} {i : Nat} {e : Int} (h : read18 b = .inr (i, e)) : e ≠ 0 := by
  unfold read18 tokS at h
  cases ht : tkF b.length rd0 b with
  | inr x =>
    rw [ht] at h
    simp only at h
    cases h
    exact tkF_err _ _ _ _ _ ht
  | inl x =>
    obtain ⟨l, z⟩ := x
    rw [ht] at h
    exact mean_err l _ _ h
end Go.Proofs.YtildhebaikeknaaGreat

/-! StrSpec -/
namespace Go.Proofs.YtildhebaikeknaaGreat

def tel3 : List Int ⊕ (Nat × Int) → List Int × Int × Int
  | .inl x => (x, 0, 0)
  | .inr (i, e) => ([], (i : Int), e)
def isK (k : Int) : Bool := narK k || decide (k = 12 ∨ k = 20 ∨ k = 30 ∨ k = 28)
/-- a string's content -/
def sput (k : Int) (s : List Int) : List Int × Int × Int :=
  if k = 12 then res3 14 (putU s) else if k = 20 then res3 14 (put18 s) else if k = 30 then wput 2 s else if k = 28 then wput 4 s else nput k s
/-- a content's scalars -/
def sget (k : Int) (b : List Int) : List Int × Int × Int :=
  if k = 12 then res3 11 (getU b) else if k = 20 then tel3 (read18 b) else if k = 30 then wget 2 b else if k = 28 then wget 4 b else nget k b
/-- whether a kind has a scalar -/
def hasK (k c : Int) : Bool := if k = 12 then scalarB c else if k = 20 then has18 c else if k = 30 then wok false c else if k = 28 then wok true c else narB k c
def fitB (k : Int) (s : List Int) : Bool := decide ((sput k s).2.2 = 0) && !s.isEmpty

theorem res3_ok {r : List Int ⊕ Nat} {err : Int} (he : err ≠ 0) : (res3 err r).2.2 = 0 ↔ ∃ x, r = .inl x := by
  cases r with
  | inl x => simp [res3, outE]
  | inr k => simp [res3, outE, he]
theorem putU_iff (s : List Int) : (∃ x, putU s = .inl x) ↔ ∀ c ∈ s, scalarB c = true := by
  constructor
  · rintro ⟨x, h⟩
    exact put_scalars h
  · intro h
    cases hp : putU s with
    | inl x => exact ⟨x, rfl⟩
    | inr k =>
      obtain ⟨h1, h2⟩ := put_bad hp
      have h3 := h (s.getD k 0) (by rw [List.getD_eq_getElem?_getD, List.getElem?_eq_getElem h1]; exact List.getElem_mem _)
      rw [h2] at h3
      cases h3
theorem put18_iff (s : List Int) : (∃ x, put18 s = .inl x) ↔ ∀ c ∈ s, has18 c = true := by
  constructor
  · rintro ⟨x, h⟩ c hc
    obtain ⟨j, hj, rfl⟩ := List.getElem_of_mem hc
    have := put_has18 h hj
    rwa [List.getD_eq_getElem?_getD, List.getElem?_eq_getElem hj] at this
  · exact put_all18
theorem putG_iff {ok : Int → Bool} {enc : Int → List Int} (s : List Int) : (∃ x, putG ok enc s = .inl x) ↔ ∀ c ∈ s, ok c = true :=
  ⟨fun ⟨_, h⟩ => (putG_all (k := 0) h).1, putG_of_all⟩
theorem sput_not {k : Int} (s : List Int) (h : isK k = false) : sput k s = ([], 0, 18) := by
  unfold isK at h
  rw [Bool.or_eq_false_iff] at h
  have h2 := of_decide_eq_false h.2
  unfold sput nput
  rw [if_neg (by omega), if_neg (by omega), if_neg (by omega), if_neg (by omega), if_neg (by rw [h.1]; exact Bool.false_ne_true)]
theorem sput_iff {k : Int} (s : List Int) (h : isK k = true) : (sput k s).2.2 = 0 ↔ ∀ c ∈ s, hasK k c = true := by
  unfold sput hasK
  by_cases h1 : k = 12
  · simp only [if_pos h1]
    exact (res3_ok (by decide)).trans (putU_iff s)
  · simp only [if_neg h1]
    by_cases h2 : k = 20
    · simp only [if_pos h2]
      exact (res3_ok (by decide)).trans (put18_iff s)
    · simp only [if_neg h2]
      by_cases h3 : k = 30
      · simp only [if_pos h3]
        exact (res3_ok (by decide)).trans (putG_iff s)
      · simp only [if_neg h3]
        by_cases h4 : k = 28
        · simp only [if_pos h4]
          exact (res3_ok (by decide)).trans (putG_iff s)
        · simp only [if_neg h4]
          have h5 : narK k = true := by
            unfold isK at h
            rw [Bool.or_eq_true] at h
            rcases h with h | h
            · exact h
            · have := of_decide_eq_true h
              omega
          unfold nput
          rw [if_pos h5]
          exact (res3_ok (by decide)).trans (putG_iff s)
theorem fit_iff (k : Int) (s : List Int) : fitB k s = (isK k && (s.all (hasK k) && !s.isEmpty)) := by
  unfold fitB
  cases h : isK k with
  | false => rw [sput_not s h]; simp
  | true =>
    have h1 := sput_iff s h
    rw [Bool.true_and]
    congr 1
    rw [Bool.eq_iff_iff, decide_eq_true_iff, List.all_eq_true]
    exact h1
theorem has_nar {k c : Int} (h : k = 18 ∨ k = 19 ∨ k = 22 ∨ k = 26) : hasK k c = narB k c := by
  unfold hasK
  rw [if_neg (by omega), if_neg (by omega), if_neg (by omega), if_neg (by omega)]
theorem has_visible {c : Int} (h : hasK 19 c = true) : hasK 22 c = true ∧ hasK 26 c = true ∧ hasK 12 c = true := by
  rw [has_nar (by decide)] at h
  rw [has_nar (by decide), has_nar (by decide)]
  unfold narB at h ⊢
  simp only [if_neg (by decide : ¬ ((19 : Int) = 18)), if_neg (by decide : ¬ ((22 : Int) = 18)), if_neg (by decide : ¬ ((22 : Int) = 19)), if_neg (by decide : ¬ ((26 : Int) = 18)), if_neg (by decide : ¬ ((26 : Int) = 19)), if_neg (by decide : ¬ ((26 : Int) = 22)), if_true] at h ⊢
  unfold narP at h
  have h := of_decide_eq_true h
  refine ⟨decide_eq_true (by omega), decide_eq_true (by omega), ?_⟩
  unfold hasK scalarB
  rw [if_pos rfl]
  simp
  omega
theorem has_printable {c : Int} (h : hasK 18 c = true) : hasK 19 c = true := by
  rw [has_nar (by decide)] at h ⊢
  unfold narB at h ⊢
  simp only [if_neg (by decide : ¬ ((19 : Int) = 18)), if_true] at h ⊢
  have h := of_decide_eq_true h
  exact decide_eq_true (by omega)
theorem has_bmp {c : Int} (h : hasK 30 c = true) : hasK 12 c = true := by
  unfold hasK wok at *
  simp at h ⊢
  exact h.1
theorem has_universal (c : Int) : hasK 12 c = hasK 28 c := by
  unfold hasK wok
  simp
theorem fit_mono {k l : Int} {s : List Int} (hl : isK l = true) (h : ∀ c, hasK k c = true → hasK l c = true) (hf : fitB k s = true) : fitB l s = true := by
  rw [fit_iff] at hf ⊢
  rw [Bool.and_eq_true, Bool.and_eq_true, List.all_eq_true] at hf
  rw [hl, Bool.true_and, Bool.and_eq_true, List.all_eq_true]
  exact ⟨fun c hc => h c (hf.2.1 c hc), hf.2.2⟩

/-- a string's bytes -/
def encS (k : Int) (s : List Int) : List Int × Int × Int := if (sput k s).2.2 = 0 then (hdB ⟨0, k, false, ((sput k s).1.length : Int), 0⟩ ++ (sput k s).1, 0, 0) else ([], (sput k s).2.1, (sput k s).2.2)
def firstS (s : List Int) : List Int → Int
  | [] => 0
  | k :: r => if fitB k s then k else firstS s r
/-- the shortest kind so far and its length -/
def leastF (s : List Int) : Int → Int → List Int → Int × Int
  | b, n, [] => (b, n)
  | b, n, k :: r => if fitB k s = true ∧ (b = 0 ∨ ((encS k s).1.length : Int) < n) then leastF s k ((encS k s).1.length : Int) r else leastF s b n r
def leastS (s : List Int) (l : List Int) : Int := (leastF s 0 0 l).1
theorem fit_zero {s : List Int} : fitB 0 s = false := by rw [fit_iff]; rfl
theorem first_some {s : List Int} : ∀ {l : List Int}, firstS s l ≠ 0 → ∃ j, j < l.length ∧ l.getD j 0 = firstS s l ∧ fitB (firstS s l) s = true ∧ ∀ i, i < j → fitB (l.getD i 0) s = false
  | [], h => absurd rfl h
  | k :: r, h => by
    rw [firstS] at h ⊢
    cases hk : fitB k s with
    | true => exact ⟨0, by simp, by simp, by simpa using hk, fun i hi => absurd hi (by omega)⟩
    | false =>
      rw [hk] at h
      simp only [Bool.false_eq_true, if_false] at h ⊢
      obtain ⟨j, h1, h2, h3, h4⟩ := first_some h
      refine ⟨j + 1, by simp; omega, by simpa using h2, h3, fun i hi => ?_⟩
      cases i with
      | zero => simpa using hk
      | succ i => simpa using h4 i (by omega)
theorem first_none {s : List Int} : ∀ {l : List Int}, firstS s l = 0 ↔ ∀ k ∈ l, fitB k s = false
  | [] => by simp [firstS]
  | k :: r => by
    rw [firstS]
    cases hk : fitB k s with
    | true =>
      have : k ≠ 0 := fun e => by rw [e, fit_zero] at hk; cases hk
      simp [this, hk]
    | false => simp [hk, first_none (l := r)]
theorem least_inv {s : List Int} : ∀ (l : List Int) (b n : Int), (b = 0 ∨ (fitB b s = true ∧ n = ((encS b s).1.length : Int))) →
    ((leastF s b n l).1 = 0 ∨ (fitB (leastF s b n l).1 s = true ∧ (leastF s b n l).2 = ((encS (leastF s b n l).1 s).1.length : Int))) ∧
    ((leastF s b n l).1 = 0 → b = 0 ∧ ∀ k ∈ l, fitB k s = false) ∧ (b ≠ 0 → (leastF s b n l).1 ≠ 0 ∧ (leastF s b n l).2 ≤ n) ∧
    ∀ k ∈ l, fitB k s = true → (leastF s b n l).1 ≠ 0 ∧ (leastF s b n l).2 ≤ ((encS k s).1.length : Int)
  | [], b, n, h => ⟨h, fun e => ⟨e, fun k hk => by cases hk⟩, fun e => ⟨e, Int.le_refl _⟩, fun k hk => by cases hk⟩
  | k :: r, b, n, h => by
    rw [leastF]
    by_cases hc : fitB k s = true ∧ (b = 0 ∨ ((encS k s).1.length : Int) < n)
    · rw [if_pos hc]
      obtain ⟨h1, h2, h3, h4⟩ := least_inv r k ((encS k s).1.length : Int) (.inr ⟨hc.1, rfl⟩)
      have hk0 : k ≠ 0 := fun e => by have := hc.1; rw [e, fit_zero] at this; cases this
      obtain ⟨h5, h6⟩ := h3 hk0
      refine ⟨h1, fun e => absurd e h5, fun e => ⟨h5, ?_⟩, fun x hx hf => ?_⟩
      · rcases hc.2 with h7 | h7
        · exact absurd h7 e
        · omega
      · rcases List.mem_cons.1 hx with rfl | hx
        · exact ⟨h5, h6⟩
        · exact h4 x hx hf
    · rw [if_neg hc]
      obtain ⟨h1, h2, h3, h4⟩ := least_inv r b n h
      have hkb : fitB k s = true → b ≠ 0 ∧ n ≤ ((encS k s).1.length : Int) := fun hf => by
        refine ⟨fun e => hc ⟨hf, .inl e⟩, ?_⟩
        apply Classical.byContradiction
        intro hn
        exact hc ⟨hf, .inr (by omega)⟩
      refine ⟨h1, fun e => ?_, h3, fun x hx hf => ?_⟩
      · obtain ⟨h5, h6⟩ := h2 e
        refine ⟨h5, fun x hx => ?_⟩
        rcases List.mem_cons.1 hx with rfl | hx
        · cases hf : fitB x s with
          | false => rfl
          | true => exact absurd h5 (hkb hf).1
        · exact h6 x hx
      · rcases List.mem_cons.1 hx with rfl | hx
        · obtain ⟨h5, h6⟩ := hkb hf
          obtain ⟨h7, h8⟩ := h3 h5
          exact ⟨h7, by omega⟩
        · exact h4 x hx hf
theorem least_zero {s : List Int} {l : List Int} : leastS s l = 0 ↔ firstS s l = 0 := by
  obtain ⟨-, h2, -, h4⟩ := least_inv (s := s) l 0 0 (.inl rfl)
  rw [first_none]
  constructor
  · intro h
    exact (h2 h).2
  · intro h
    apply Classical.byContradiction
    intro hne
    obtain ⟨h1, -, -, -⟩ := least_inv (s := s) l 0 0 (.inl rfl)
    rcases h1 with h1 | ⟨h1, -⟩
    · exact hne h1
    · have key : ∀ (l : List Int) (b n : Int), (∀ k ∈ l, fitB k s = false) → (leastF s b n l).1 = b := by
        intro l
        induction l with
        | nil => intro b n _; rfl
        | cons k r ih =>
          intro b n hk
          rw [leastF, if_neg (by rw [hk k (by simp)]; simp)]
          exact ih b n fun x hx => hk x (List.mem_cons_of_mem _ hx)
      exact hne (key l 0 0 h)
theorem least_best {s : List Int} {l : List Int} (h : leastS s l ≠ 0) : fitB (leastS s l) s = true ∧ ∀ k ∈ l, fitB k s = true → (encS (leastS s l) s).1.length ≤ (encS k s).1.length := by
  obtain ⟨h1, -, -, h4⟩ := least_inv (s := s) l 0 0 (.inl rfl)
  rcases h1 with h1 | ⟨h1, h5⟩
  · exact absurd h1 h
  · refine ⟨h1, fun k hk hf => ?_⟩
    have := (h4 k hk hf).2
    rw [h5] at this
    unfold leastS
    omega
end Go.Proofs.YtildhebaikeknaaGreat

/-! Cho20a -/
namespace Go.Proofs.YtildhebaikeknaaGreat
open Go.RowKit

theorem idxL_iff (c : Int) : ∀ (l : List Int) (o : Int), 0 ≤ o → (0 ≤ idxL c l o ↔ c ∈ l)
  | [], o, h => by simp [idxL]
  | x :: l, o, h => by
    rw [idxL]
    by_cases hx : x = c
    · subst hx
      simp [h]
    · have e : (x == c) = false := by simpa using hx
      rw [e]
      simp only [Bool.false_eq_true, if_false, List.mem_cons]
      rw [idxL_iff c l (o + 1) (by omega)]
      exact ⟨.inr, fun h => h.elim (fun h => absurd h.symm hx) id⟩
theorem inL_iff (c : Int) (l : List Int) : inL c l = true ↔ c ∈ l := by
  unfold inL
  rw [decide_eq_true_iff]
  exact idxL_iff c l 0 (Int.le_refl 0)

/-- the kinds of a list, each once, in the order in which they are first named -/
def distF : List Int → List Int → List Int
  | a, [] => a
  | a, k :: r => if (isK k && !inL k a) = true then distF (a ++ [k]) r else distF a r
theorem first_app (s : List Int) : ∀ (a b : List Int), firstS s (a ++ b) = if firstS s a = 0 then firstS s b else firstS s a
  | [], b => by simp [firstS]
  | k :: r, b => by
    rw [List.cons_append, firstS, firstS]
    cases h : fitB k s with
    | true =>
      have : k ≠ 0 := fun e => by rw [e, fit_zero] at h; cases h
      simp [this]
    | false => simpa using first_app s r b
theorem least_app (s : List Int) : ∀ (a x : List Int) (b n : Int), leastF s b n (a ++ x) = leastF s (leastF s b n a).1 (leastF s b n a).2 x
  | [], x, b, n => rfl
  | k :: r, x, b, n => by
    rw [List.cons_append, leastF, leastF]
    split
    · exact least_app s r x _ _
    · exact least_app s r x _ _
theorem dist_no {k : Int} {a s : List Int} (h : ¬ (isK k && !inL k a) = true) : fitB k s = false ∨ k ∈ a := by
  cases hk : isK k with
  | false => exact .inl (by rw [fit_iff, hk]; rfl)
  | true =>
    rw [hk] at h
    exact .inr ((inL_iff k a).1 (by simpa using h))
theorem dist_first (s : List Int) : ∀ (l a : List Int), firstS s (distF a l) = firstS s (a ++ l)
  | [], a => by rw [distF, List.append_nil]
  | k :: r, a => by
    rw [distF]
    split
    · rw [dist_first s r (a ++ [k])]
      simp
    · rename_i h
      rw [dist_first s r a, first_app, first_app]
      by_cases h0 : firstS s a = 0
      · rw [if_pos h0, if_pos h0, firstS]
        have hf : fitB k s = false := (dist_no h).elim id fun hm => first_none.1 h0 k hm
        rw [hf]
        rfl
      · rw [if_neg h0, if_neg h0]
theorem dist_least (s : List Int) : ∀ (l a : List Int), leastF s 0 0 (distF a l) = leastF s 0 0 (a ++ l)
  | [], a => by rw [distF, List.append_nil]
  | k :: r, a => by
    rw [distF]
    split
    · rw [dist_least s r (a ++ [k])]
      simp
    · rename_i h
      rw [dist_least s r a, least_app, least_app s a (k :: r), leastF]
      rw [if_neg]
      rintro ⟨hf, hc⟩
      rcases dist_no (s := s) h with h1 | h1
      · rw [h1] at hf; cases hf
      · obtain ⟨-, -, -, h4⟩ := least_inv (s := s) a 0 0 (.inl rfl)
        obtain ⟨h5, h6⟩ := h4 k h1 hf
        rcases hc with hc | hc
        · exact h5 hc
        · omega
theorem dist_len : ∀ (l a : List Int), (distF a l).length ≤ a.length + l.length
  | [], a => by rw [distF]; simp
  | k :: r, a => by
    rw [distF]
    split
    · have := dist_len r (a ++ [k]); simp at this ⊢; omega
    · have := dist_len r a; simp at this ⊢; omega
theorem dist_in : ∀ (l a : List Int), (∀ k ∈ a, isK k = true) → ∀ k ∈ distF a l, isK k = true
  | [], a, h => by rw [distF]; exact h
  | k :: r, a, h => by
    rw [distF]
    split
    · rename_i hk
      refine dist_in r (a ++ [k]) fun x hx => ?_
      rcases List.mem_append.1 hx with hx | hx
      · exact h x hx
      · rw [List.mem_singleton] at hx
        subst hx
        rw [Bool.and_eq_true] at hk
        exact hk.1
    · exact dist_in r a h
end Go.Proofs.YtildhebaikeknaaGreat
