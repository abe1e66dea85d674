/- Several texts in one: TelSpec, TelMath, TelFin, ShOk, Sh17a, RefEsc. -/
import Derived.Test.YtobicndpkojgiaaPk15
import Derived.Test.YtobicndpkojgiaaPk19
import Derived.Test.YtobicndpkojgiaaPk1
import Derived.Test.YtobicndpkojgiaaPk2
import Derived.Test.YtobicndpkojgiaaPk20
import Derived.Test.YtobicndpkojgiaaPk16
import Derived.Test.YtobicndpkojgiaaPk24
/-! TelSpec -/
namespace Go.Proofs.Ytobicndpkojgiaa

/-- one scalar of k tokens ahead of what the others mean -/
def consM (k : Nat) (c : Int) : List Int ⊕ (Nat × Int) → List Int ⊕ (Nat × Int)
  | .inl l => .inl (c :: l)
  | .inr (i, e) => .inr (k + i, e)
/-- what tokens mean, or which one has no meaning and how -/
def meanS : List (Int × Int) → List Int ⊕ (Nat × Int)
  | [] => .inl []
  | [t] =>
    if t.1 = 0 then .inl [t.2]
    else if (getS16 t.1 t.2).2 = true then .inl [(getS16 t.1 t.2).1]
    else if t.1 = 103 ∧ (markS t.2).2.2 = true then .inr (0, 2) else .inr (0, 13)
  | t :: n :: q =>
    if t.1 = 0 then consM 1 t.2 (meanS (n :: q))
    else if (getS16 t.1 t.2).2 = true then consM 1 (getS16 t.1 t.2).1 (meanS (n :: q))
    else if t.1 = 103 ∧ (markS t.2).2.2 = true then
      (if n.1 = 0 ∧ n.2 = 32 then consM 2 (markS t.2).2.1 (meanS q)
      else if (n.1 = 102 ∨ n.1 = 6) ∧ (getS16 n.1 n.2).2 = true ∧ letB (getS16 n.1 n.2).1 = true ∧ (pairS (getS16 n.1 n.2).1 (markS t.2).1).2 = true then consM 2 (pairS (getS16 n.1 n.2).1 (markS t.2).1).1 (meanS q)
      else .inr (0, 13))
    else .inr (0, 13)
def read18 (b : List Int) : List Int ⊕ (Nat × Int) :=
  match tokS b with
  | .inl l => meanS l
  | .inr x => .inr x
def escP (g set : Int) : List Int := if set = 87 then [27, 36, 40 + g, finalS set] else [27, 40 + g, finalS set]
def bytP (p : Int) : List Int := if 255 < p then [p / 256, p % 256] else [p]
def ctlB (c : Int) : Bool := c == 32 || (c == 8 || (c == 10 || (c == 12 || c == 13)))
/-- whether a scalar has a normal form -/
def has18 (c : Int) : Bool := ctlB c || ((findS16 103 c).2 || ((accS c).2.2 || tabSets.any fun s => (findS16 s c).2))
/-- a scalar's bytes while the set g is in G0, and which one is there then -/
def oneP (g c : Int) : Option (List Int × Int) :=
  if ctlB c = true then some ([c], g)
  else if (findS16 g c).2 = true then some (bytP (findS16 g c).1, g)
  else if (findS16 103 c).2 = true then some ([(findS16 103 c).1 + 128], g)
  else if (accS c).2.2 = true then
    (if (accS c).2.1 = 32 ∨ g = 102 ∨ g = 6 then some ([(accS c).1 + 128, (accS c).2.1], g) else some (escP 0 102 ++ [(accS c).1 + 128, (accS c).2.1], 102))
  else if (fndI (fun s => (findS16 s c).2) tabSets).2 = true then
    some (escP 0 (fndI (fun s => (findS16 s c).2) tabSets).1 ++ bytP (findS16 (fndI (fun s => (findS16 s c).2) tabSets).1 c).1, (fndI (fun s => (findS16 s c).2) tabSets).1)
  else none
/-- the normal form, or which one has none -/
def putF : Int → List Int → List Int ⊕ Nat
  | _, [] => .inl []
  | g, c :: r =>
    match oneP g c with
    | none => .inr 0
    | some (b, h) =>
      match putF h r with
      | .inl l => .inl (b ++ l)
      | .inr i => .inr (i + 1)
def put18 (s : List Int) : List Int ⊕ Nat := putF 102 s
def rdG (g : Int) : Rd := ⟨[g, 0, 103, 0], 0, 2⟩

theorem mean_one {t : Int × Int} {c : Int} (R : List (Int × Int)) (h : (t.1 = 0 ∧ t.2 = c) ∨ (t.1 ≠ 0 ∧ getS16 t.1 t.2 = (c, true))) : meanS (t :: R) = consM 1 c (meanS R) := by
  cases R with
  | nil =>
    rcases h with ⟨h1, h2⟩ | ⟨h1, h2⟩
    · simp only [meanS, if_pos h1, consM, h2]
    · simp only [meanS, if_neg h1, h2, if_true, consM]
  | cons n q =>
    rcases h with ⟨h1, h2⟩ | ⟨h1, h2⟩
    · simp only [meanS, if_pos h1, h2]
    · simp only [meanS, if_neg h1, h2, if_true]
theorem mean_alone {q m lone : Int} (R : List (Int × Int)) (h1 : (getS16 103 q).2 = false) (h2 : markS q = (m, lone, true)) : meanS ((103, q) :: (0, 32) :: R) = consM 2 lone (meanS R) := by
  simp [meanS, h1, h2]
theorem mean_pair {q m lone g p le c : Int} (R : List (Int × Int)) (h1 : (getS16 103 q).2 = false) (h2 : markS q = (m, lone, true)) (hg : g = 102 ∨ g = 6) (h3 : getS16 g p = (le, true)) (h4 : letB le = true) (h5 : pairS le m = (c, true)) : meanS ((103, q) :: (g, p) :: R) = consM 2 c (meanS R) := by
  have hg0 : g ≠ 0 := by omega
  simp [meanS, h1, h2, hg0, hg, h3, h4, h5]

theorem tk_ctl {st : Rd} {c : Int} (r : List Int) (h : ctlB c = true) : tkS st (c :: r) = .inl ([(0, c)], 1, st) := by
  unfold ctlB at h
  simp only [Bool.or_eq_true, beq_iff_eq] at h
  simp only [tkS, if_pos h]
theorem tk_left {st : Rd} {set p : Int} (r : List Int) (hs : st.g.getD st.left 0 = set) (h0 : set ≠ 0) (h87 : set ≠ 87) (h1 : 33 ≤ p) (h2 : p ≤ 126) : tkS st (p :: r) = .inl ([(set, p)], 1, st) := by
  have e1 : ¬ (p = 32 ∨ p = 8 ∨ p = 10 ∨ p = 12 ∨ p = 13) := by omega
  have e2 : ¬ (p = 14 ∨ p = 15) := by omega
  have e3 : ¬ (p = 27) := by omega
  have e4 : ¬ (p = 25 ∨ p = 29) := by omega
  have e5 : (33 ≤ p ∧ p ≤ 126) ∨ (161 ≤ p ∧ p ≤ 254) := by omega
  have e6 : ¬ (126 < p) := by omega
  have e7 : sdS p = 0 := by unfold sdS; rw [if_neg (by omega)]
  have e8 : 33 ≤ p ∧ p ≤ 126 := ⟨h1, h2⟩
  simp only [tkS, if_neg e1, if_neg e2, if_neg e3, if_neg e4, if_pos e5, if_neg e6, plS, e7, Int.sub_zero, if_pos e8, hs, if_neg h0, if_pos h87]
theorem tk_left2 {st : Rd} {p q : Int} (r : List Int) (hs : st.g.getD st.left 0 = 87) (h1 : 33 ≤ p) (h2 : p ≤ 126) (h3 : 33 ≤ q) (h4 : q ≤ 126) : tkS st (p :: q :: r) = .inl ([(87, 256 * p + q)], 2, st) := by
  have e1 : ¬ (p = 32 ∨ p = 8 ∨ p = 10 ∨ p = 12 ∨ p = 13) := by omega
  have e2 : ¬ (p = 14 ∨ p = 15) := by omega
  have e3 : ¬ (p = 27) := by omega
  have e4 : ¬ (p = 25 ∨ p = 29) := by omega
  have e5 : (33 ≤ p ∧ p ≤ 126) ∨ (161 ≤ p ∧ p ≤ 254) := by omega
  have e6 : ¬ (126 < p) := by omega
  have e7 : sdS p = 0 := by unfold sdS; rw [if_neg (by omega)]
  have e8 : 33 ≤ p ∧ p ≤ 126 := ⟨h1, h2⟩
  have e9 : 33 ≤ q ∧ q ≤ 126 := ⟨h3, h4⟩
  have e10 : ¬ ((87 : Int) = 0) := by decide
  have e11 : ¬ ((87 : Int) ≠ 87) := by decide
  simp only [tkS, if_neg e1, if_neg e2, if_neg e3, if_neg e4, if_pos e5, if_neg e6, plS, e7, Int.sub_zero, if_pos e8, if_pos e9, hs, if_neg e10, if_neg e11]
theorem tk_right {st : Rd} {set p : Int} (r : List Int) (hs : st.g.getD st.right 0 = set) (h0 : set ≠ 0) (h87 : set ≠ 87) (h1 : 33 ≤ p) (h2 : p ≤ 126) : tkS st ((p + 128) :: r) = .inl ([(set, p)], 1, st) := by
  have e1 : ¬ (p + 128 = 32 ∨ p + 128 = 8 ∨ p + 128 = 10 ∨ p + 128 = 12 ∨ p + 128 = 13) := by omega
  have e2 : ¬ (p + 128 = 14 ∨ p + 128 = 15) := by omega
  have e3 : ¬ (p + 128 = 27) := by omega
  have e4 : ¬ (p + 128 = 25 ∨ p + 128 = 29) := by omega
  have e5 : (33 ≤ p + 128 ∧ p + 128 ≤ 126) ∨ (161 ≤ p + 128 ∧ p + 128 ≤ 254) := by omega
  have e6 : 126 < p + 128 := by omega
  have e7 : sdS (p + 128) = 128 := by unfold sdS; rw [if_pos (by omega)]
  have e8 : 33 ≤ p ∧ p ≤ 126 := ⟨h1, h2⟩
  simp only [tkS, if_neg e1, if_neg e2, if_neg e3, if_neg e4, if_pos e5, if_pos e6, plS, e7, Int.add_sub_cancel, if_pos e8, hs, if_neg h0, if_pos h87]
theorem fin_of {s : Int} (h : s ∈ tabSets ++ [103]) : byFinS (finalS s) (s == 87) = (s, true) ∧ 48 ≤ finalS s ∧ finalS s ≤ 126 := by
  have := List.all_eq_true.1 fin_ok s h
  unfold finOk at this
  simp only [Bool.and_eq_true, decide_eq_true_eq] at this
  exact this
theorem tk_esc {st : Rd} {set g : Int} (r : List Int) (hs : set ∈ tabSets ++ [103]) (h0 : 0 ≤ g) (h3 : g ≤ 3) : tkS st (escP g set ++ r) = .inl ([], (escP g set).length, ⟨st.g.set g.toNat set, st.left, st.right⟩) := by
  obtain ⟨hf, -, -⟩ := fin_of hs
  have e1 : 40 ≤ 40 + g ∧ 40 + g ≤ 43 := by omega
  have e2 : 40 + g - 40 = g := by omega
  by_cases h : set = 87
  · have e3 : (set == 87) = true := by simpa using h
    rw [e3] at hf
    unfold escP
    rw [if_pos h]
    simp [tkS, esS, hf, e1, e2]
  · have e3 : (set == 87) = false := by simpa using h
    rw [e3] at hf
    unfold escP
    rw [if_neg h]
    simp [tkS, esS, hf, e1, e2]
/-- one step, and nothing behind it -/
theorem tkF_one {st s : Rd} {b : List Int} {ts : List (Int × Int)} {n : Nat} (h : tkS st b = .inl (ts, n, s)) (hn : n = b.length) {f : Nat} (hf : b.length ≤ f) : tkF f st b = .inl (ts, s) := by
  have h2 := tk_ok h
  obtain ⟨g, rfl⟩ : ∃ g, f = g + 1 := ⟨f - 1, by omega⟩
  have hb : b ≠ [] := fun e => by rw [e] at h2; simp at h2; omega
  rw [tkF_step hb, h]
  simp only
  rw [hn, List.drop_length, tkF_nil]
  simp
theorem fndS_tt {p : Rg → Bool} {l : List Rg} (h : (fndS p l).2 = true) : (fndS p l).1 ∈ l ∧ p (fndS p l).1 = true := fndS_mem (Prod.ext rfl h)
/-- a row of the table of codes -/
theorem code_row {r : Rg} (h : r ∈ tabCodes) : getS16 r.f r.t = (r.v, true) ∧ (findS16 r.f r.v).2 = true ∧ ((r.f == 87) = decide (255 < r.t)) ∧ (33 ≤ r.t % 256 ∧ r.t % 256 ≤ 126) ∧ (r.t ≤ 255 ∨ (33 ≤ r.t / 256 ∧ r.t / 256 ≤ 126)) ∧ 0 ≤ r.t ∧ scalarB r.v = true ∧ inI r.f = true ∧ inI r.t = true := by
  have := List.all_eq_true.1 codes_ok r h
  unfold codeOk at this
  simp only [Bool.and_eq_true, decide_eq_true_eq, beq_iff_eq] at this
  obtain ⟨a1, a2, a3, a4, a5, a6, a7, ⟨⟨a8, a9⟩, a10⟩, a11, a12⟩ := this
  exact ⟨a1, a2, a5, a6, a7, a12, a4, a8, a9⟩
theorem codes_sets : (tabCodes.all fun r => (tabSets ++ [103]).contains r.f) = true := by decide +kernel
theorem code_set {r : Rg} (h : r ∈ tabCodes) : r.f ∈ tabSets ++ [103] := by
  have := List.all_eq_true.1 codes_sets r h
  simpa using this
theorem find_row {set c p : Int} (h : findS16 set c = (p, true)) : ∃ r ∈ tabCodes, r.f = set ∧ r.v = c ∧ r.t = p := by
  unfold findS16 at h
  simp only [Prod.mk.injEq] at h
  obtain ⟨h1, h2⟩ := fndS_tt (p := fun r : Rg => r.f == set && r.v == c) (l := tabCodes) h.2
  simp only [Bool.and_eq_true, beq_iff_eq] at h2
  exact ⟨_, h1, h2.1, h2.2, h.1⟩
theorem get_row {set p c : Int} (h : getS16 set p = (c, true)) : ∃ r ∈ tabCodes, r.f = set ∧ r.t = p ∧ r.v = c := by
  unfold getS16 at h
  simp only [Prod.mk.injEq] at h
  obtain ⟨h1, h2⟩ := fndS_tt (p := fun r : Rg => r.f == set && r.t == p) (l := tabCodes) h.2
  simp only [Bool.and_eq_true, beq_iff_eq] at h2
  exact ⟨_, h1, h2.1, h2.2, h.1⟩
/-- the bytes of a row's place are read as it, where its set is on the left -/
theorem tk_row {r : Rg} (h : r ∈ tabCodes) {st : Rd} (hs : st.g.getD st.left 0 = r.f) {f : Nat} (hf : 2 ≤ f) : tkF f st (bytP r.t) = .inl ([(r.f, r.t)], st) := by
  obtain ⟨-, -, h87, h1, h2, h0, -⟩ := code_row h
  have h00 : r.f ≠ 0 := fun e => by have := code_set h; rw [e] at this; exact absurd this (by decide)
  unfold bytP
  by_cases hw : 255 < r.t
  · rw [if_pos hw]
    have e87 : r.f = 87 := by
      have : (r.f == 87) = true := by rw [h87]; simpa using hw
      simpa using this
    have := tk_left2 (st := st) (p := r.t / 256) (q := r.t % 256) [] (by rw [hs, e87]) (by omega) (by omega) h1.1 h1.2
    rw [show 256 * (r.t / 256) + r.t % 256 = r.t by omega] at this
    rw [e87]
    exact tkF_one this rfl (by simpa using hf)
  · rw [if_neg hw]
    have e87 : r.f ≠ 87 := by
      have : (r.f == 87) = false := by rw [h87]; simpa using hw
      simpa using this
    exact tkF_one (tk_left [] hs h00 e87 (by omega) (by omega)) rfl (by simp; omega)
theorem set_ne {s : Int} (h : s ∈ tabSets) : s ∈ tabSets ++ [103] := List.mem_append_left _ h
theorem consM_two (k : Nat) (c : Int) (x : List Int ⊕ (Nat × Int)) : ∀ l, consM k c x = .inl l ↔ ∃ m, x = .inl m ∧ l = c :: m := fun l => by
  cases x with
  | inl m => simp [consM, eq_comm]
  | inr x => obtain ⟨i, e⟩ := x; simp [consM]
end Go.Proofs.Ytobicndpkojgiaa

/-! TelMath -/
namespace Go.Proofs.Ytobicndpkojgiaa

theorem eta2 {α : Type} {x : α × Bool} (h : x.2 = true) : x = (x.1, true) := by rw [← h]
theorem eta3 {α β : Type} {x : α × β × Bool} (h : x.2.2 = true) : x = (x.1, x.2.1, true) := by rw [← h]
theorem acc_place : (tabAccents.all fun r => decide (65 ≤ r.f ∧ r.f ≤ 79)) = true := by decide +kernel
theorem mark_row {q n lone : Int} (h : markS q = (n, lone, true)) : ∃ r ∈ tabAccents, r.f = q ∧ r.t = n ∧ r.v = lone := by
  unfold markS at h
  simp only [Prod.mk.injEq] at h
  obtain ⟨h1, h2⟩ := fndS_tt (p := fun r : Rg => r.f == q) (l := tabAccents) h.2.2
  exact ⟨_, h1, by simpa using h2, h.1, h.2.1⟩
def letOk (n : Nat) : Bool := decide (getS16 102 (n : Int) = ((n : Int), true)) && decide (getS16 6 (n : Int) = ((n : Int), true))
theorem let_rows : ((List.range 26).all fun n => letOk (65 + n) && letOk (97 + n)) = true := by decide +kernel
theorem let_get {le : Int} (h : letB le = true) : getS16 102 le = (le, true) ∧ getS16 6 le = (le, true) := by
  unfold letB at h
  rw [decide_eq_true_iff] at h
  have key : ∀ n : Nat, letOk n = true → getS16 102 (n : Int) = ((n : Int), true) ∧ getS16 6 (n : Int) = ((n : Int), true) := fun n hn => by
    unfold letOk at hn
    simpa using hn
  rcases h with h | h
  · have := List.all_eq_true.1 let_rows (le - 65).toNat (List.mem_range.2 (by omega))
    simp only [Bool.and_eq_true] at this
    have h2 := key _ this.1
    rwa [show ((65 + (le - 65).toNat : Nat) : Int) = le by omega] at h2
  · have := List.all_eq_true.1 let_rows (le - 97).toNat (List.mem_range.2 (by omega))
    simp only [Bool.and_eq_true] at this
    have h2 := key _ this.2
    rwa [show ((97 + (le - 97).toNat : Nat) : Int) = le by omega] at h2
theorem g_ne {g : Int} (h : g ∈ tabSets) : g ≠ 0 ∧ g ≠ 103 := by
  constructor
  · intro e; rw [e] at h; exact absurd h (by decide)
  · intro e; rw [e] at h; exact absurd h (by decide)
/-- an accent, and what stands behind it -/
theorem tkF_two {g q le : Int} (hq1 : 65 ≤ q) (hq2 : q ≤ 79) (h : (le = 32) ∨ (letB le = true ∧ g ≠ 0 ∧ g ≠ 87)) {f : Nat} (hf : 2 ≤ f) :
    tkF f (rdG g) [q + 128, le] = .inl ([(103, q), if le = 32 then (0, 32) else (g, le)], rdG g) := by
  have h1 : tkS (rdG g) [q + 128, le] = .inl ([(103, q)], 1, rdG g) := tk_right [le] (by rfl) (by decide) (by decide) (by omega) (by omega)
  obtain ⟨k, rfl⟩ : ∃ k, f = k + 1 := ⟨f - 1, by omega⟩
  rw [tkF_step (by simp), h1]
  simp only [List.drop_succ_cons, List.drop_zero]
  rcases h with rfl | ⟨hl, h0, h87⟩
  · rw [tkF_one (tk_ctl [] (by decide)) rfl (by simp; omega)]
    simp
  · unfold letB at hl
    rw [decide_eq_true_iff] at hl
    rw [tkF_one (tk_left (st := rdG g) (set := g) [] (by rfl) h0 h87 (by omega) (by omega)) rfl (by simp; omega), if_neg (by omega)]
    simp
theorem esc_read {g set : Int} (hs : set ∈ tabSets) {f : Nat} (hf : 4 ≤ f) : tkF f (rdG g) (escP 0 set) = .inl ([], rdG set) := by
  have h := tk_esc (st := rdG g) (g := 0) [] (set_ne hs) (by decide) (by decide)
  rw [List.append_nil] at h
  have hl : (escP 0 set).length ≤ 4 := by unfold escP; split <;> simp
  exact tkF_one h rfl (by omega)
/-- a scalar's bytes are read as tokens that mean it -/
theorem one_read {g h c : Int} {b : List Int} (hg : g ∈ tabSets) (ho : oneP g c = some (b, h)) : h ∈ tabSets ∧ ∃ T, tkF b.length (rdG g) b = .inl (T, rdG h) ∧ ∀ R, meanS (T ++ R) = consM T.length c (meanS R) := by
  obtain ⟨g0, g103⟩ := g_ne hg
  unfold oneP at ho
  by_cases h1 : ctlB c = true
  · rw [if_pos h1] at ho
    cases ho
    exact ⟨hg, [(0, c)], tkF_one (tk_ctl [] h1) rfl (Nat.le_refl _), fun R => mean_one R (.inl ⟨rfl, rfl⟩)⟩
  rw [if_neg h1] at ho
  by_cases h2 : (findS16 g c).2 = true
  · rw [if_pos h2] at ho
    cases ho
    obtain ⟨r, hr, hf, hv, ht⟩ := find_row (eta2 h2 : findS16 g c = ((findS16 g c).1, true))
    obtain ⟨hget, -⟩ := code_row hr
    rw [← ht]
    refine ⟨hg, [(r.f, r.t)], ?_, fun R => mean_one R (.inr ⟨by rw [hf]; exact g0, by rw [hget, hv]⟩)⟩
    have hk := tk_row hr (st := rdG g) (by rw [hf]; rfl) (f := (bytP r.t).length + 2) (by omega)
    rwa [tkF_fuel _ (bytP r.t).length _ _ (by omega) (Nat.le_refl _)] at hk
  rw [if_neg h2] at ho
  by_cases h3 : (findS16 103 c).2 = true
  · rw [if_pos h3] at ho
    cases ho
    obtain ⟨r, hr, hf, hv, ht⟩ := find_row (eta2 h3 : findS16 103 c = ((findS16 103 c).1, true))
    obtain ⟨hget, -, h87, hm, hd, h0, -⟩ := code_row hr
    have h255 : r.t ≤ 255 := by
      have : decide (255 < r.t) = false := by rw [← h87, hf]; rfl
      have := of_decide_eq_false this
      omega
    rw [← ht]
    exact ⟨hg, [(103, r.t)], tkF_one (tk_right (st := rdG g) [] (by rfl) (by decide) (by decide) (by omega) (by omega)) rfl (Nat.le_refl _), fun R => mean_one R (.inr ⟨(by decide : (103 : Int) ≠ 0), by rw [← hf, hget, hv]⟩)⟩
  rw [if_neg h3] at ho
  by_cases h4 : (accS c).2.2 = true
  · rw [if_pos h4] at ho
    obtain ⟨n, lone, hmk, -, -, hcase⟩ := acc_facts (show accS c = ((accS c).1, (accS c).2.1, true) from eta3 h4)
    obtain ⟨r, hr, hrf, -, -⟩ := mark_row hmk
    have hpl := List.all_eq_true.1 acc_place r hr
    rw [decide_eq_true_iff, hrf] at hpl
    have hno : (getS16 103 (accS c).1).2 = false := by rw [← hrf]; exact (acc_row hr).2.1
    generalize (accS c).1 = q at ho hmk hpl hno
    generalize (accS c).2.1 = le at ho hcase
    have mean : ∀ k, (k = 102 ∨ k = 6 ∨ le = 32) → ∀ R, meanS ([(103, q), if le = 32 then (0, 32) else (k, le)] ++ R) = consM 2 c (meanS R) := fun k hk R => by
      rcases hcase with ⟨rfl, rfl⟩ | ⟨hne, hp, hl, -⟩
      · rw [if_pos rfl]
        exact mean_alone R hno hmk
      · rw [if_neg hne]
        have hk' : k = 102 ∨ k = 6 := by omega
        refine mean_pair R hno hmk hk' (le := le) ?_ hl hp
        rcases hk' with rfl | rfl
        · exact (let_get hl).1
        · exact (let_get hl).2
    have hle : ∀ k : Int, k ≠ 0 → k ≠ 87 ∨ le = 32 → (le = 32) ∨ (letB le = true ∧ k ≠ 0 ∧ k ≠ 87) := fun k hk0 hk => by
      rcases hcase with ⟨h, -⟩ | ⟨hne, -, hl, -⟩
      · exact .inl h
      · exact .inr ⟨hl, hk0, by omega⟩
    by_cases h5 : le = 32 ∨ g = 102 ∨ g = 6
    · rw [if_pos h5] at ho
      cases ho
      exact ⟨hg, _, tkF_two hpl.1 hpl.2 (hle g g0 (by omega)) (Nat.le_refl _), mean g (by omega)⟩
    · rw [if_neg h5] at ho
      cases ho
      refine ⟨by decide, _, ?_, mean 102 (.inl rfl)⟩
      have hl4 : (escP 0 102).length = 3 := rfl
      have h6 := tkF_app (escP 0 102).length (rdG g) (rdG 102) (escP 0 102) [q + 128, le] [] (Nat.le_refl _) (by rw [hl4, ← tkF_fuel 4 3 _ _ (by rw [hl4]; omega) (by rw [hl4]; omega)]; exact esc_read (by decide) (by omega)) (escP 0 102 ++ [q + 128, le]).length (Nat.le_refl _)
      rw [h6, tkF_two hpl.1 hpl.2 (hle 102 (by decide) (.inl (by decide))) (by simp)]
      rfl
  rw [if_neg h4] at ho
  by_cases h5 : (fndI (fun s => (findS16 s c).2) tabSets).2 = true
  · rw [if_pos h5] at ho
    obtain ⟨hm, hp⟩ := fndI_mem (p := fun s => (findS16 s c).2) (l := tabSets) (eta2 h5 : fndI (fun s => (findS16 s c).2) tabSets = ((fndI (fun s => (findS16 s c).2) tabSets).1, true))
    generalize (fndI (fun s => (findS16 s c).2) tabSets).1 = s at ho hm hp
    injection ho with ho
    simp only [Prod.mk.injEq] at ho
    obtain ⟨rfl, rfl⟩ := ho
    obtain ⟨r, hr, hf, hv, ht⟩ := find_row (eta2 hp : findS16 s c = ((findS16 s c).1, true))
    obtain ⟨hget, -⟩ := code_row hr
    rw [← ht]
    refine ⟨hm, [(r.f, r.t)], ?_, fun R => mean_one R (.inr ⟨by rw [hf]; exact (g_ne hm).1, by rw [hget, hv]⟩)⟩
    have hl4 : (escP 0 s).length ≤ 4 := by unfold escP; split <;> simp
    have h6 := tkF_app 4 (rdG g) (rdG s) (escP 0 s) (bytP r.t) [] hl4 (esc_read hm (Nat.le_refl _)) ((escP 0 s ++ bytP r.t).length + 2) (by omega)
    rw [tk_row hr (st := rdG s) (by rw [hf]; rfl) (by omega)] at h6
    rwa [tkF_fuel _ (escP 0 s ++ bytP r.t).length _ _ (by omega) (Nat.le_refl _)] at h6
  · rw [if_neg h5] at ho
    cases ho
theorem put_read : ∀ (s : List Int) (g : Int) (b : List Int), g ∈ tabSets → putF g s = .inl b → ∃ T h, tkF b.length (rdG g) b = .inl (T, rdG h) ∧ meanS T = .inl s
  | [], g, b, _, h => by
    cases h
    exact ⟨[], g, tkF_nil _ _, rfl⟩
  | c :: r, g, b, hg, h => by
    rw [putF] at h
    cases ho : oneP g c with
    | none => rw [ho] at h; cases h
    | some x =>
      obtain ⟨p, k⟩ := x
      rw [ho] at h
      simp only at h
      cases hp : putF k r with
      | inr i => rw [hp] at h; cases h
      | inl l =>
        rw [hp] at h
        cases h
        obtain ⟨hk, T, h1, h2⟩ := one_read hg ho
        obtain ⟨T2, h', h3, h4⟩ := put_read r k l hk hp
        refine ⟨T ++ T2, h', ?_, by rw [h2, h4]; rfl⟩
        rw [tkF_app p.length (rdG g) (rdG k) p l T (Nat.le_refl _) h1 _ (Nat.le_refl _), tkF_fuel _ l.length _ _ (by simp) (Nat.le_refl _), h3]
theorem read_put {s b : List Int} (h : put18 s = .inl b) : read18 b = .inl s := by
  obtain ⟨T, k, h1, h2⟩ := put_read s 102 b (by decide) h
  unfold read18 tokS
  rw [show rd0 = rdG 102 from rfl, h1]
  exact h2
/-- a scalar has a normal form whatever stands in G0 -/
theorem one_has {g c : Int} (hg : g ∈ tabSets) : (oneP g c).isSome = has18 c := by
  have hfi : (fndI (fun s => (findS16 s c).2) tabSets).2 = tabSets.any fun s => (findS16 s c).2 := by
    have key : ∀ l : List Int, (fndI (fun s => (findS16 s c).2) l).2 = l.any fun s => (findS16 s c).2 := fun l => by
      induction l with
      | nil => rfl
      | cons x l ih =>
        rw [fndI, List.any_cons]
        by_cases hx : (findS16 x c).2 = true
        · rw [if_pos hx, hx]; rfl
        · rw [if_neg hx, ih, Bool.eq_false_iff.2 hx]; rfl
    exact key _
  unfold oneP has18
  by_cases h1 : ctlB c = true
  · rw [if_pos h1, h1]; rfl
  rw [if_neg h1, Bool.eq_false_iff.2 h1]
  by_cases h2 : (findS16 g c).2 = true
  · rw [if_pos h2]
    have : (tabSets.any fun s => (findS16 s c).2) = true := List.any_eq_true.2 ⟨g, hg, h2⟩
    rw [this]
    simp
  rw [if_neg h2]
  by_cases h3 : (findS16 103 c).2 = true
  · rw [if_pos h3, h3]; rfl
  rw [if_neg h3, Bool.eq_false_iff.2 h3]
  by_cases h4 : (accS c).2.2 = true
  · rw [if_pos h4, h4]
    split <;> rfl
  rw [if_neg h4, Bool.eq_false_iff.2 h4]
  by_cases h5 : (fndI (fun s => (findS16 s c).2) tabSets).2 = true
  · rw [if_pos h5, ← hfi, h5]; rfl
  · rw [if_neg h5, ← hfi, Bool.eq_false_iff.2 h5]; rfl
/-- where the first scalar stands that has no normal form -/
def badAt : List Int → Option Nat
  | [] => none
  | c :: r => if has18 c = true then (badAt r).map (· + 1) else some 0
theorem put_bad18 : ∀ (s : List Int) (g : Int), g ∈ tabSets → (match putF g s with | .inl _ => badAt s = none | .inr i => badAt s = some i)
  | [], g, _ => rfl
  | c :: r, g, hg => by
    have ho := one_has (c := c) hg
    rw [putF, badAt]
    cases hp : oneP g c with
    | none =>
      rw [hp] at ho
      rw [← ho]
      rfl
    | some x =>
      obtain ⟨p, k⟩ := x
      rw [hp] at ho
      rw [← ho]
      have ih := put_bad18 r k (one_read hg hp).1
      simp only [Option.isSome_some, if_true]
      cases hq : putF k r with
      | inl l => rw [hq] at ih; simp only at ih ⊢; rw [ih]; rfl
      | inr i => rw [hq] at ih; simp only at ih ⊢; rw [ih]; rfl
/-- what a token of no set may be -/
def TokOk (t : Int × Int) : Prop := t.1 = 0 → ctlB t.2 = true
theorem pl_tok {set : Int} {b : List Int} {t : Int × Int} {n : Nat} (h : plS set b = .inl (t, n)) : TokOk t := by
  match b with
  | [] => cases h
  | [c] =>
    revert h
    simp only [plS]
    repeat' split
    all_goals (intro h; first | (cases h; done) | (rename_i h0 _; injection h with h; injection h with h _; subst h; exact fun e => absurd e h0))
  | c :: d :: r =>
    revert h
    simp only [plS]
    repeat' split
    all_goals (intro h; first | (cases h; done) | (injection h with h; injection h with h _; subst h; intro e; contradiction))
theorem tk_tok {st s : Rd} {b : List Int} {ts : List (Int × Int)} {n : Nat} (h : tkS st b = .inl (ts, n, s)) : ∀ t ∈ ts, TokOk t := by
  match b with
  | [] => cases h
  | c :: r =>
    revert h
    simp only [tkS]
    split
    · rename_i hc
      intro h
      cases h
      intro t ht
      simp only [List.mem_singleton] at ht
      subst ht
      intro _
      unfold ctlB
      simpa using hc
    split
    · intro h; cases h; intro t ht; cases ht
    split
    · cases he : esS st r with
      | inl x => obtain ⟨s', n'⟩ := x; intro h; cases h; intro t ht; cases ht
      | inr e => intro h; cases h
    split
    · cases he : plS (st.g.getD (if c = 29 then 3 else 2) 0) r with
      | inl x =>
        obtain ⟨t, n'⟩ := x
        intro h
        cases h
        intro t' ht
        simp only [List.mem_singleton] at ht
        subst ht
        exact pl_tok he
      | inr e => intro h; cases h
    split
    · cases he : plS (st.g.getD (if 126 < c then st.right else st.left) 0) (c :: r) with
      | inl x =>
        obtain ⟨t, n'⟩ := x
        intro h
        cases h
        intro t' ht
        simp only [List.mem_singleton] at ht
        subst ht
        exact pl_tok he
      | inr e => intro h; cases h
    · intro h; cases h
theorem tkF_tok : ∀ (f : Nat) (st s : Rd) (b : List Int) (l : List (Int × Int)), tkF f st b = .inl (l, s) → ∀ t ∈ l, TokOk t
  | 0, st, s, b, l, h => by
    cases h
    intro t ht
    cases ht
  | f + 1, st, s, b, l, h => by
    by_cases hb : b = []
    · rw [hb, tkF_nil] at h
      cases h
      intro t ht
      cases ht
    · rw [tkF_step hb] at h
      cases ht : tkS st b with
      | inr e => rw [ht] at h; cases h
      | inl x =>
        obtain ⟨ts, n, z⟩ := x
        rw [ht] at h
        simp only at h
        cases hr : tkF f z (b.drop n) with
        | inr x => rw [hr] at h; cases h
        | inl x =>
          obtain ⟨l', z'⟩ := x
          rw [hr] at h
          cases h
          intro t hm
          rcases List.mem_append.1 hm with hm | hm
          · exact tk_tok ht t hm
          · exact tkF_tok f z _ _ l' hr t hm
/-- what has a place has a normal form -/
theorem row_has {r : Rg} (h : r ∈ tabCodes) : has18 r.v = true := by
  obtain ⟨-, hfi, -⟩ := code_row h
  unfold has18
  rcases List.mem_append.1 (code_set h) with h1 | h1
  · have : (tabSets.any fun s => (findS16 s r.v).2) = true := List.any_eq_true.2 ⟨r.f, h1, hfi⟩
    rw [this]
    simp
  · simp only [List.mem_singleton] at h1
    rw [h1] at hfi
    rw [hfi]
    simp
theorem f_canon18 : (tabPair.all fun r => canonS r.f == [r.t, r.v]) = true := by decide +kernel
theorem pair_facts18 {a b c : Int} (h : pairS a b = (c, true)) : canonS c = [a, b] := by
  unfold pairS at h
  simp only [Prod.mk.injEq] at h
  obtain ⟨hm, hp⟩ := fndS_tt (p := fun r : Rg => r.t == a && r.v == b) (l := tabPair) h.2
  have hf := List.all_eq_true.1 f_canon18 _ hm
  simp only [Bool.and_eq_true, beq_iff_eq] at hf hp
  rw [hp.1, hp.2, h.1] at hf
  exact hf
theorem pair_has {q n lone le c : Int} (hm : markS q = (n, lone, true)) (hl : letB le = true) (hp : pairS le n = (c, true)) : has18 c = true := by
  obtain ⟨r, hr, hrf, hrt, -⟩ := mark_row hm
  have hc := (pair_facts18 hp)
  have : (accS c).2.2 = true := by
    unfold accS
    by_cases h1 : (fndS (fun r => r.v == c) tabAccents).2 = true
    · rw [if_pos h1]
    · rw [if_neg h1, hc]
      unfold accTwo
      rw [if_pos ⟨rfl, by simpa using hl⟩]
      simp only [List.getD_cons_zero, List.getD_cons_succ]
      rw [hp, if_pos (by simp)]
      have : (fndS (fun r : Rg => r.t == n) tabAccents).2 = true := by
        have key : ∀ l : List Rg, r ∈ l → (fndS (fun r : Rg => r.t == n) l).2 = true := fun l => by
          induction l with
          | nil => intro h; cases h
          | cons x l ih =>
            intro h
            rw [fndS]
            by_cases hx : (x.t == n) = true
            · rw [if_pos hx]
            · rw [if_neg hx]
              rcases List.mem_cons.1 h with rfl | h
              · exact absurd (by simpa using hrt) hx
              · exact ih h
        exact key _ hr
      rw [if_pos this]
  unfold has18
  rw [this]
  simp
theorem mean_has : ∀ (l : List (Int × Int)) (s : List Int), (∀ t ∈ l, TokOk t) → meanS l = .inl s → ∀ c ∈ s, has18 c = true
  | [], s, _, h => by
    cases h
    intro c hc
    cases hc
  | [t], s, ht, h => by
    simp only [meanS] at h
    by_cases h1 : t.1 = 0
    · rw [if_pos h1] at h
      cases h
      intro c hc
      simp only [List.mem_singleton] at hc
      subst hc
      unfold has18
      rw [ht t (by simp) h1]
      rfl
    rw [if_neg h1] at h
    by_cases h2 : (getS16 t.1 t.2).2 = true
    · rw [if_pos h2] at h
      cases h
      intro c hc
      simp only [List.mem_singleton] at hc
      subst hc
      obtain ⟨r, hr, -, -, hv⟩ := get_row (eta2 h2 : getS16 t.1 t.2 = ((getS16 t.1 t.2).1, true))
      rw [← hv]
      exact row_has hr
    rw [if_neg h2] at h
    by_cases h3 : t.1 = 103 ∧ (markS t.2).2.2 = true
    · rw [if_pos h3] at h; cases h
    · rw [if_neg h3] at h; cases h
  | t :: n :: q, s, ht, h => by
    have htn : ∀ t ∈ n :: q, TokOk t := fun x hx => ht x (List.mem_cons_of_mem _ hx)
    have htq : ∀ t ∈ q, TokOk t := fun x hx => htn x (List.mem_cons_of_mem _ hx)
    have add : ∀ k c x, has18 c = true → (∀ m, x = .inl m → ∀ d ∈ m, has18 d = true) → consM k c x = .inl s → ∀ d ∈ s, has18 d = true := fun k c x hc hx he => by
      obtain ⟨m, h1, h2⟩ := (consM_two k c x s).1 he
      intro d hd
      rw [h2] at hd
      rcases List.mem_cons.1 hd with rfl | hd
      · exact hc
      · exact hx m h1 d hd
    simp only [meanS] at h
    by_cases h1 : t.1 = 0
    · rw [if_pos h1] at h
      refine add 1 t.2 _ ?_ (fun m hm => mean_has (n :: q) m htn hm) h
      unfold has18
      rw [ht t (by simp) h1]
      rfl
    rw [if_neg h1] at h
    by_cases h2 : (getS16 t.1 t.2).2 = true
    · rw [if_pos h2] at h
      refine add 1 _ _ ?_ (fun m hm => mean_has (n :: q) m htn hm) h
      obtain ⟨r, hr, -, -, hv⟩ := get_row (eta2 h2 : getS16 t.1 t.2 = ((getS16 t.1 t.2).1, true))
      rw [← hv]
      exact row_has hr
    rw [if_neg h2] at h
    by_cases h3 : t.1 = 103 ∧ (markS t.2).2.2 = true
    · rw [if_pos h3] at h
      have hmk : markS t.2 = ((markS t.2).1, (markS t.2).2.1, true) := eta3 h3.2
      by_cases h4 : n.1 = 0 ∧ n.2 = 32
      · rw [if_pos h4] at h
        refine add 2 _ _ ?_ (fun m hm => mean_has q m htq hm) h
        obtain ⟨r, hr, -, -, hv⟩ := mark_row hmk
        have := (acc_row hr).2.2.1
        rw [hv] at this
        unfold has18
        rw [this]
        simp
      rw [if_neg h4] at h
      by_cases h5 : (n.1 = 102 ∨ n.1 = 6) ∧ (getS16 n.1 n.2).2 = true ∧ letB (getS16 n.1 n.2).1 = true ∧ (pairS (getS16 n.1 n.2).1 (markS t.2).1).2 = true
      · rw [if_pos h5] at h
        exact add 2 _ _ (pair_has hmk h5.2.2.1 (eta2 h5.2.2.2)) (fun m hm => mean_has q m htq hm) h
      · rw [if_neg h5] at h; cases h
    · rw [if_neg h3] at h; cases h
theorem read_has {b s : List Int} (h : read18 b = .inl s) : ∀ c ∈ s, has18 c = true := by
  unfold read18 tokS at h
  cases ht : tkF b.length rd0 b with
  | inr x => rw [ht] at h; cases h
  | inl x =>
    obtain ⟨l, z⟩ := x
    rw [ht] at h
    exact mean_has l s (tkF_tok _ _ _ _ _ ht) h
theorem bad_none : ∀ s : List Int, badAt s = none ↔ ∀ c ∈ s, has18 c = true
  | [] => by simp [badAt]
  | c :: r => by
    rw [badAt]
    by_cases h : has18 c = true
    · rw [if_pos h, Option.map_eq_none_iff, bad_none r]
      simp [h]
    · rw [if_neg h]
      simp [h]
theorem put_all18 {s : List Int} (h : ∀ c ∈ s, has18 c = true) : ∃ b, put18 s = .inl b := by
  have hb := put_bad18 s 102 (by decide)
  rw [(bad_none s).2 h] at hb
  unfold put18
  cases hp : putF 102 s with
  | inl b => exact ⟨b, rfl⟩
  | inr i => rw [hp] at hb; cases hb
end Go.Proofs.Ytobicndpkojgiaa

/-! TelFin -/
namespace Go.Proofs.Ytobicndpkojgiaa

theorem Sl.cap_ge18 {k : IntKind} {w : World} {a : Option Addr} {n c : Nat} {l : List Int} (h : Sl k w (.slice a n c) l) : l.length ≤ c := by
  obtain ⟨a', cap, hv, hl, -⟩ := h
  injection hv with h1 h2 h3
  omega
theorem esc_u8 {g s : Int} (h0 : 0 ≤ g) (h3 : g ≤ 3) (hs : s ∈ tabSets ++ [103]) : U8 (escP g s) := by
  obtain ⟨-, h1, h2⟩ := fin_of hs
  unfold escP
  intro x hx
  split at hx
  · simp only [List.mem_cons, List.not_mem_nil, or_false] at hx
    omega
  · simp only [List.mem_cons, List.not_mem_nil, or_false] at hx
    omega
theorem byt_u8 {r : Rg} (h : r ∈ tabCodes) : U8 (bytP r.t) := by
  obtain ⟨-, -, -, h1, h2, h0, -⟩ := code_row h
  unfold bytP
  intro x hx
  split at hx
  · simp only [List.mem_cons, List.not_mem_nil, or_false] at hx
    omega
  · simp only [List.mem_cons, List.not_mem_nil, or_false] at hx
    omega
theorem esc_len (g s : Int) : (escP g s).length ≤ 4 := by unfold escP; split <;> simp
theorem byt_len (p : Int) : (bytP p).length ≤ 2 := by unfold bytP; split <;> simp
theorem one_u8 {g h c : Int} {b : List Int} (ho : oneP g c = some (b, h)) : U8 b ∧ b.length ≤ 6 := by
  unfold oneP at ho
  by_cases h1 : ctlB c = true
  · rw [if_pos h1] at ho
    cases ho
    unfold ctlB at h1
    simp only [Bool.or_eq_true, beq_iff_eq] at h1
    refine ⟨fun x hx => ?_, by simp⟩
    simp only [List.mem_singleton] at hx
    omega
  rw [if_neg h1] at ho
  by_cases h2 : (findS16 g c).2 = true
  · rw [if_pos h2] at ho
    cases ho
    obtain ⟨r, hr, hf, hv, ht⟩ := find_row (eta2 h2 : findS16 g c = ((findS16 g c).1, true))
    rw [← ht]
    have := byt_len r.t
    exact ⟨byt_u8 hr, by omega⟩
  rw [if_neg h2] at ho
  by_cases h3 : (findS16 103 c).2 = true
  · rw [if_pos h3] at ho
    cases ho
    obtain ⟨r, hr, hf, hv, ht⟩ := find_row (eta2 h3 : findS16 103 c = ((findS16 103 c).1, true))
    obtain ⟨-, -, h87, hm, hd, h0, -⟩ := code_row hr
    have h255 : r.t ≤ 255 := by
      have : decide (255 < r.t) = false := by rw [← h87, hf]; rfl
      have := of_decide_eq_false this
      omega
    rw [← ht]
    refine ⟨fun x hx => ?_, by simp⟩
    simp only [List.mem_singleton] at hx
    omega
  rw [if_neg h3] at ho
  by_cases h4 : (accS c).2.2 = true
  · rw [if_pos h4] at ho
    obtain ⟨n, lone, hmk, -, -, hcase⟩ := acc_facts (show accS c = ((accS c).1, (accS c).2.1, true) from eta3 h4)
    obtain ⟨r, hr, hrf, -, -⟩ := mark_row hmk
    have hpl := List.all_eq_true.1 acc_place r hr
    rw [decide_eq_true_iff, hrf] at hpl
    generalize (accS c).1 = q at ho hpl
    generalize (accS c).2.1 = le at ho hcase
    have hle : 0 ≤ le ∧ le ≤ 255 := by
      rcases hcase with ⟨h, -⟩ | ⟨-, -, hl, -⟩
      · omega
      · unfold letB at hl
        rw [decide_eq_true_iff] at hl
        omega
    have hu : U8 [q + 128, le] := fun x hx => by
      simp only [List.mem_cons, List.not_mem_nil, or_false] at hx
      omega
    by_cases h5 : le = 32 ∨ g = 102 ∨ g = 6
    · rw [if_pos h5] at ho
      cases ho
      exact ⟨hu, by simp⟩
    · rw [if_neg h5] at ho
      cases ho
      exact ⟨(esc_u8 (by decide) (by decide) (by decide)).append hu, by rw [List.length_append]; have := esc_len 0 102; simp; omega⟩
  rw [if_neg h4] at ho
  by_cases h5 : (fndI (fun s => (findS16 s c).2) tabSets).2 = true
  · rw [if_pos h5] at ho
    obtain ⟨hm, hp⟩ := fndI_mem (p := fun s => (findS16 s c).2) (l := tabSets) (eta2 h5 : fndI (fun s => (findS16 s c).2) tabSets = ((fndI (fun s => (findS16 s c).2) tabSets).1, true))
    generalize (fndI (fun s => (findS16 s c).2) tabSets).1 = s at ho hm hp
    injection ho with ho
    simp only [Prod.mk.injEq] at ho
    obtain ⟨rfl, rfl⟩ := ho
    obtain ⟨r, hr, hf, hv, ht⟩ := find_row (eta2 hp : findS16 s c = ((findS16 s c).1, true))
    rw [← ht]
    exact ⟨(esc_u8 (by decide) (by decide) (set_ne hm)).append (byt_u8 hr), by rw [List.length_append]; have := esc_len 0 s; have := byt_len r.t; omega⟩
  · rw [if_neg h5] at ho
    cases ho
theorem putF_u8 : ∀ (s : List Int) (g : Int) (b : List Int), putF g s = .inl b → U8 b ∧ b.length ≤ 6 * s.length
  | [], g, b, h => by
    cases h
    exact ⟨U8.nil, by simp⟩
  | c :: r, g, b, h => by
    rw [putF] at h
    cases ho : oneP g c with
    | none => rw [ho] at h; cases h
    | some x =>
      obtain ⟨p, k⟩ := x
      rw [ho] at h
      simp only at h
      cases hp : putF k r with
      | inr i => rw [hp] at h; cases h
      | inl l =>
        rw [hp] at h
        cases h
        obtain ⟨h1, h2⟩ := one_u8 ho
        obtain ⟨h3, h4⟩ := putF_u8 r k l hp
        exact ⟨h1.append h3, by rw [List.length_append, List.length_cons]; omega⟩
theorem put_bytes18 {s b : List Int} (h : put18 s = .inl b) : U8 b := (putF_u8 s 102 b h).1
theorem put_len18 {s b : List Int} (h : put18 s = .inl b) : b.length ≤ 6 * s.length := (putF_u8 s 102 b h).2
theorem bad_at : ∀ (s : List Int) (k : Nat), badAt s = some k → k < s.length ∧ has18 (s.getD k 0) = false ∧ ∀ i, i < k → has18 (s.getD i 0) = true
  | [], k, h => by cases h
  | c :: r, k, h => by
    rw [badAt] at h
    by_cases hc : has18 c = true
    · rw [if_pos hc] at h
      obtain ⟨j, hj, rfl⟩ := Option.map_eq_some_iff.1 h
      obtain ⟨h1, h2, h3⟩ := bad_at r j hj
      refine ⟨by simpa using h1, by simpa using h2, fun i hi => ?_⟩
      cases i with
      | zero => simpa using hc
      | succ i => simpa using h3 i (by omega)
    · rw [if_neg hc] at h
      cases h
      exact ⟨by simp, by simpa using hc, fun i hi => absurd hi (by omega)⟩
theorem put_first18 {s : List Int} {k : Nat} (h : put18 s = .inr k) : k < s.length ∧ has18 (s.getD k 0) = false := by
  have hb := put_bad18 s 102 (by decide)
  unfold put18 at h
  rw [h] at hb
  obtain ⟨h1, h2, -⟩ := bad_at s k hb
  exact ⟨h1, h2⟩
theorem put_firsts18 {s : List Int} {k : Nat} (h : put18 s = .inr k) : k < s.length ∧ has18 (s.getD k 0) = false ∧ ∀ i, i < k → has18 (s.getD i 0) = true := by
  have hb := put_bad18 s 102 (by decide)
  unfold put18 at h
  rw [h] at hb
  exact bad_at s k hb
theorem put_has18 {s b : List Int} (h : put18 s = .inl b) {j : Nat} (hj : j < s.length) : has18 (s.getD j 0) = true := by
  have hb := put_bad18 s 102 (by decide)
  unfold put18 at h
  rw [h] at hb
  have e : s.getD j 0 = s[j] := by rw [List.getD_eq_getElem?_getD, List.getElem?_eq_getElem hj]; rfl
  rw [e]
  exact (bad_none s).1 hb _ (List.getElem_mem hj)
theorem tk_few {st s : Rd} {b : List Int} {ts : List (Int × Int)} {n : Nat} (h : tkS st b = .inl (ts, n, s)) : ts.length ≤ n := by
  have hn := tk_ok h
  suffices ts.length ≤ 1 by omega
  match b with
  | [] => cases h
  | c :: r =>
    revert h
    simp only [tkS]
    split
    · intro h; cases h; simp
    split
    · intro h; cases h; simp
    split
    · cases esS st r with
      | inl x => obtain ⟨s', n'⟩ := x; intro h; cases h; simp
      | inr e => intro h; cases h
    split
    · cases plS (st.g.getD (if c = 29 then 3 else 2) 0) r with
      | inl x => obtain ⟨t, n'⟩ := x; intro h; cases h; simp
      | inr e => intro h; cases h
    split
    · cases plS (st.g.getD (if 126 < c then st.right else st.left) 0) (c :: r) with
      | inl x => obtain ⟨t, n'⟩ := x; intro h; cases h; simp
      | inr e => intro h; cases h
    · intro h; cases h
theorem pl_err {set e : Int} {b : List Int} (h : plS set b = .inr e) : e ≠ 0 := by
  match b with
  | [] => cases h; decide
  | [c] =>
    revert h
    simp only [plS]
    repeat' split
    all_goals (intro h; first | (cases h; done) | (injection h with h; subst h; decide))
  | c :: d :: r =>
    revert h
    simp only [plS]
    repeat' split
    all_goals (intro h; first | (cases h; done) | (injection h with h; subst h; decide))
theorem es_err {st : Rd} {e : Int} {b : List Int} (h : esS st b = .inr e) : e ≠ 0 := by
  match b with
  | [] => cases h; decide
  | [c] =>
    revert h
    simp only [esS]
    repeat' split
    all_goals (intro h; first | (cases h; done) | (injection h with h; subst h; decide))
  | [c, d] =>
    revert h
    simp only [esS]
    repeat' split
    all_goals (intro h; first | (cases h; done) | (injection h with h; subst h; decide))
  | c :: d :: f :: r =>
    revert h
    simp only [esS]
    repeat' split
    all_goals (intro h; first | (cases h; done) | (injection h with h; subst h; decide))
theorem tk_err {st : Rd} {e : Int} {b : List Int} (h : tkS st b = .inr e) : e ≠ 0 := by
  match b with
  | [] => cases h; decide
  | c :: r =>
    revert h
    simp only [tkS]
    split
    · intro h; cases h
    split
    · intro h; cases h
    split
    · cases he : esS st r with
      | inl x => obtain ⟨s', n'⟩ := x; intro h; cases h
      | inr e' => intro h; injection h with h; subst h; exact es_err he
    split
    · cases he : plS (st.g.getD (if c = 29 then 3 else 2) 0) r with
      | inl x => obtain ⟨t, n'⟩ := x; intro h; cases h
      | inr e' => intro h; injection h with h; subst h; exact pl_err he
    split
    · cases he : plS (st.g.getD (if 126 < c then st.right else st.left) 0) (c :: r) with
      | inl x => obtain ⟨t, n'⟩ := x; intro h; cases h
      | inr e' => intro h; injection h with h; subst h; exact pl_err he
    · intro h; injection h with h; subst h; decide
theorem tkF_err : ∀ (f : Nat) (st : Rd) (b : List Int) (i : Nat) (e : Int), tkF f st b = .inr (i, e) → e ≠ 0
  | 0, st, b, i, e, h => by cases h
  | f + 1, st, b, i, e, h => by
    by_cases hb : b = []
    · rw [hb, tkF_nil] at h; cases h
    · rw [tkF_step hb] at h
      cases ht : tkS st b with
      | inr e' =>
        rw [ht] at h
        injection h with h
        simp only [Prod.mk.injEq] at h
        rw [← h.2]
        exact tk_err ht
      | inl x =>
        obtain ⟨ts, n, z⟩ := x
        rw [ht] at h
        simp only at h
        cases hr : tkF f z (b.drop n) with
        | inl x => obtain ⟨l', z'⟩ := x; rw [hr] at h; cases h
        | inr x =>
          obtain ⟨i', e'⟩ := x
          rw [hr] at h
          injection h with h
          simp only [Prod.mk.injEq] at h
          rw [← h.2]
          exact tkF_err f z _ i' e' hr
theorem mean_err : ∀ (l : List (Int × Int)) (i : Nat) (e : Int), meanS l = .inr (i, e) → e ≠ 0
  | [], i, e, h => by cases h
  | [t], i, e, h => by
    simp only [meanS] at h
    split at h
    · cases h
    · split at h
      · cases h
      · split at h <;> (injection h with h; simp only [Prod.mk.injEq] at h; omega)
  | t :: n :: q, i, e, h => by
    have add : ∀ k c x, (∀ j e', x = .inr (j, e') → e' ≠ 0) → consM k c x = .inr (i, e) → e ≠ 0 := fun k c x hx he => by
      cases x with
      | inl m => cases he
      | inr y =>
        obtain ⟨j, e'⟩ := y
        injection he with he
        simp only [Prod.mk.injEq] at he
        rw [← he.2]
        exact hx j e' rfl
    have h1 : ∀ j e', meanS (n :: q) = .inr (j, e') → e' ≠ 0 := fun j e' hm => mean_err (n :: q) j e' hm
    have h2 : ∀ j e', meanS q = .inr (j, e') → e' ≠ 0 := fun j e' hm => mean_err q j e' hm
    simp only [meanS] at h
    split at h
    · exact add _ _ _ h1 h
    split at h
    · exact add _ _ _ h1 h
    split at h
    · split at h
      · exact add _ _ _ h2 h
      · split at h
        · exact add _ _ _ h2 h
        · injection h with h; simp only [Prod.mk.injEq] at h; omega
    · injection h with h; simp only [Prod.mk.injEq] at h; omega
/-- tokens are no more than bytes -/
theorem tkF_len : ∀ (f : Nat) (st s : Rd) (b : List Int) (l : List (Int × Int)), tkF f st b = .inl (l, s) → l.length ≤ b.length
  | 0, st, s, b, l, h => by
    cases h
    simp
  | f + 1, st, s, b, l, h => by
    by_cases hb : b = []
    · rw [hb, tkF_nil] at h
      cases h
      simp
    · rw [tkF_step hb] at h
      cases ht : tkS st b with
      | inr e => rw [ht] at h; cases h
      | inl x =>
        obtain ⟨ts, n, z⟩ := x
        rw [ht] at h
        simp only at h
        cases hr : tkF f z (b.drop n) with
        | inr x => rw [hr] at h; cases h
        | inl x =>
          obtain ⟨l', z'⟩ := x
          rw [hr] at h
          cases h
          have h1 := tkF_len f z _ _ l' hr
          have h2 := tk_ok ht
          have h3 := tk_few ht
          rw [List.length_drop] at h1
          rw [List.length_append]
          omega
theorem mean_len : ∀ (l : List (Int × Int)) (s : List Int), meanS l = .inl s → s.length ≤ l.length
  | [], s, h => by cases h; simp
  | [t], s, h => by
    simp only [meanS] at h
    split at h
    · cases h; simp
    · split at h
      · cases h; simp
      · split at h <;> cases h
  | t :: n :: q, s, h => by
    have add : ∀ k c x, (∀ m, x = .inl m → m.length + 1 ≤ (t :: n :: q).length) → consM k c x = .inl s → s.length ≤ (t :: n :: q).length := fun k c x hx he => by
      obtain ⟨m, h1, h2⟩ := (consM_two k c x s).1 he
      rw [h2, List.length_cons]
      exact hx m h1
    have h1 : ∀ m, meanS (n :: q) = .inl m → m.length + 1 ≤ (t :: n :: q).length := fun m hm => by have := mean_len (n :: q) m hm; simp only [List.length_cons] at this ⊢; omega
    have h2 : ∀ m, meanS q = .inl m → m.length + 1 ≤ (t :: n :: q).length := fun m hm => by have := mean_len q m hm; simp only [List.length_cons]; omega
    simp only [meanS] at h
    split at h
    · exact add _ _ _ h1 h
    split at h
    · exact add _ _ _ h1 h
    split at h
    · split at h
      · exact add _ _ _ h2 h
      · split at h
        · exact add _ _ _ h2 h
        · cases h
    · cases h
theorem read_len18 {b s : List Int} (h : read18 b = .inl s) : s.length ≤ b.length := by
  unfold read18 tokS at h
  cases ht : tkF b.length rd0 b with
  | inr x => rw [ht] at h; cases h
  | inl x =>
    obtain ⟨l, z⟩ := x
    rw [ht] at h
    have := mean_len l s h
    have := tkF_len _ _ _ _ _ ht
    omega
theorem has_codes : (tabCodes.all fun r => inI r.v) = true := by decide +kernel
theorem has_accs : (tabAccents.all fun r => inI r.v) = true := by decide +kernel
theorem has_pairs : (tabPair.all fun r => inI r.f) = true := by decide +kernel
/-- what has a normal form is an int -/
theorem has_in {c : Int} (h : has18 c = true) : inI c = true := by
  unfold has18 at h
  simp only [Bool.or_eq_true] at h
  have row : ∀ s, (findS16 s c).2 = true → inI c = true := fun s hs => by
    obtain ⟨r, hr, -, hv, -⟩ := find_row (eta2 hs : findS16 s c = ((findS16 s c).1, true))
    rw [← hv]
    exact List.all_eq_true.1 has_codes r hr
  rcases h with h | h | h | h
  · unfold ctlB at h
    simp only [Bool.or_eq_true, beq_iff_eq] at h
    rcases h with rfl | rfl | rfl | rfl | rfl <;> decide
  · exact row _ h
  · obtain ⟨n, lone, hmk, -, -, hcase⟩ := acc_facts (show accS c = ((accS c).1, (accS c).2.1, true) from eta3 h)
    rcases hcase with ⟨-, hl⟩ | ⟨-, hp, -⟩
    · obtain ⟨r, hr, -, -, hv⟩ := mark_row hmk
      rw [← hl, ← hv]
      exact List.all_eq_true.1 has_accs r hr
    · unfold pairS at hp
      simp only [Prod.mk.injEq] at hp
      obtain ⟨hm, -⟩ := fndS_tt (p := fun r : Rg => r.t == (accS c).2.1 && r.v == n) (l := tabPair) hp.2
      rw [← hp.1]
      exact List.all_eq_true.1 has_pairs _ hm
  · obtain ⟨s, -, hs⟩ := List.any_eq_true.1 h
    exact row s hs
theorem read_in18 {b s : List Int} (_ : U8 b) (h : read18 b = .inl s) : s.all inI = true := List.all_eq_true.2 fun c hc => has_in (read_has h c hc)
/-- an error is none of the numbers that tell no error -/
theorem read_err18 {b : List Int} {i : Nat} {e : Int} (h : read18 b = .inr (i, e)) : e ≠ 0 := by
  unfold read18 tokS at h
  cases ht : tkF b.length rd0 b with
  | inr x =>
    rw [ht] at h
    simp only at h
    cases h
    exact tkF_err _ _ _ _ _ ht
  | inl x =>
    obtain ⟨l, z⟩ := x
    rw [ht] at h
    exact mean_err l _ _ h
end Go.Proofs.Ytobicndpkojgiaa

/-! ShOk -/
namespace Go.Proofs.Ytobicndpkojgiaa
open Go.RowKit

/-- the tokens, where they fail, how -/
def tkL : List (Int × Int) ⊕ (Nat × Int) → List (Int × Int)
  | .inl x => x
  | .inr _ => []
def tkAt : List (Int × Int) ⊕ (Nat × Int) → Nat
  | .inl _ => 0
  | .inr (i, _) => i
def tkE : List (Int × Int) ⊕ (Nat × Int) → Int
  | .inl _ => 0
  | .inr (_, e) => e
def escE (g s : Int) : Int := if 0 ≤ g ∧ g ≤ 3 then (if finalS s = 0 then 12 else 0) else 1
def escL (g s : Int) : List Int := if escE g s = 0 then escP g s else []
def ShTokOk : Prop := ∀ (v : Value) (b : List Int) (w : World), Sl .u8 w v b → U8 b → b.length ≤ 100000 → Calls Try.prog 29 #[v] w fun e w' => ∃ x, e = .returned (.tuple #[x, .int .i64 (tkAt (tokS b)), .int .i64 (tkE (tokS b))]) ∧ Tk w' x (tkL (tokS b)) ∧ Below w.heap.size w w'
def ShEscOk : Prop := ∀ (g s : Int) (w : World), inI g = true → inI s = true → Calls Try.prog 75 #[.int .i64 g, .int .i64 s] w fun e w' => ∃ x, e = .returned (.tuple #[x, .int .i64 (escE g s)]) ∧ Own .u8 5 w.heap.size w' x (escL g s) ∧ Below w.heap.size w w'
theorem w17_tok : tokS [27, 40, 70, 97] = .inl [(126, 97)] := by decide +kernel
theorem w17_bad : tokS [97, 27, 40, 65] = .inr (1, 12) := by decide +kernel
theorem w17_esc : escL 1 87 = [27, 36, 41, 66] ∧ escE 1 87 = 0 := by decide +kernel

theorem Try.infoTk : (Try.prog.info? 88).map (fun i => (i.zero, i.size, i.bytes)) = some (some (.agg #[.int .i64 0, .int .i64 0]), 2, 16) := by kernel_rfl
/-- l[:m] of tokens, in whatever world -/
theorem cut_tok {w0 : World} {a : Option Addr} {n c : Nat} {l : List (Int × Int)} (h : Tk w0 (.slice a n c) l) {m : Nat} (hm : m ≤ l.length) :
    (∀ w, (Instr.sliceAt 61 (.slice a n c) none (some (.int .i64 (m : Int))) none).run Try.prog w = .ok (.slice a m c) w) ∧ (∀ w, (Instr.slice 61 (.slice a n c) none (some (.int .i64 (m : Int))) none).run Try.prog w = .ok (.slice a m c) w) ∧ Tk w0 (.slice a m c) (l.take m) := by
  obtain ⟨a', c', hv, hl, hx, hh⟩ := h
  injection hv with e1 e2 e3
  subst e1 e2 e3
  obtain ⟨i, hi', hz0, hz1, hz2⟩ := info_parts Try.infoTk
  have ht : Try.prog.underlying 61 = some (.slice 88) := by kernel_rfl
  have hlen : (l.take m).length = m := by rw [List.length_take]; omega
  have hg : ∀ w, (Instr.sliceAt 61 (.slice a l.length c) none (some (.int .i64 (m : Int))) none).run Try.prog w = .ok (.slice a m c) w ∧ (Instr.slice 61 (.slice a l.length c) none (some (.int .i64 (m : Int))) none).run Try.prog w = .ok (.slice a m c) w := fun w => by
    rcases hh with h0 | ⟨b, off, rfl, -, -⟩
    · subst h0
      simp [Instr.sliceAt, Instr.slice, run_underlying ht, Instr.sliceBounds, Instr.sliceBound, asIntOf, sizeOf, typeInfo, hi']
      intro h; omega
    · simp [Instr.sliceAt, Instr.slice, run_underlying ht, Instr.sliceBounds, Instr.sliceBound, asIntOf, sizeOf, typeInfo, hi', Addr.add]
      intro h; omega
  refine ⟨fun w => (hg w).1, fun w => (hg w).2, a, c, by rw [hlen], by rw [hlen]; omega, hx, ?_⟩
  rcases hh with h0 | ⟨b, off, rfl, hb, hc⟩
  · exact .inl h0
  · refine .inr ⟨b, off, rfl, fun h0 => hb (by rw [hlen] at h0; omega), fun i hi => ?_⟩
    rw [hlen] at hi
    have e : (l.take m).getD i (0, 0) = l.getD i (0, 0) := by rw [List.getD_eq_getElem?_getD, List.getD_eq_getElem?_getD, List.getElem?_take, if_pos hi]
    rw [e]
    exact hc i (by omega)
end Go.Proofs.Ytobicndpkojgiaa

/-! Sh17a -/
namespace Go.Proofs.Ytobicndpkojgiaa
open Go.RowKit

/-- what is asked of csets.Wide, of csets.ByFinal -/
def WideE : Prop := ∀ (s : Int) (w : World), Calls Try.prog 18 #[.int .i64 s] w fun e w' => e = .returned (.bool (s == 87)) ∧ w = w'
def ByFinE : Prop := ∀ (f : Int) (wide : Bool) (w : World), Calls Try.prog 85 #[.int .i64 f, .bool wide] w fun e w' => e = .returned (.tuple #[.int .i64 (byFinS f wide).1, .bool (byFinS f wide).2]) ∧ Below w.heap.size w w'

def plB (x : Int) : Bool := decide (33 ≤ x ∧ x ≤ 126)
theorem shIn (x : Int) (w : World) : Calls Try.prog 81 #[.int .i64 x] w fun e w' => e = .returned (.bool (plB x)) ∧ w = w' := by
  by_cases h1 : 33 ≤ x
  · by_cases h2 : x ≤ 126
    · have HR := hid (show plB x = true from decide_eq_true ⟨h1, h2⟩)
      go_enter Try.func81, Try.ntmps81
      go_wp2
      go_ret
      exact ⟨by rw [HR.out]; rfl, rfl⟩
    · have HR := hid (show plB x = false from decide_eq_false (by omega))
      go_enter Try.func81, Try.ntmps81
      go_wp2
      go_ret
      exact ⟨by rw [HR.out]; rfl, rfl⟩
  · have HR := hid (show plB x = false from decide_eq_false (by omega))
    go_enter Try.func81, Try.ntmps81
    go_wp2
    go_ret
    exact ⟨by rw [HR.out]; rfl, rfl⟩

theorem results_tk3 {P : Program} {fn : Func} {p u x : Tmp} {ty : TypeId} (h : fn.results = #[.cell p ty, .tmp u, .tmp x]) {tmps : Array Value} {B : Nat} (hp : tmps.getD p undef = .pointer (some ⟨B, 0, none⟩)) {w : World} {y : Value} (hl : (loadVar ty ⟨B, 0, none⟩).run P w = .ok y w) :
    (results fn tmps).run P w = .ok (.tuple #[y, tmps.getD u undef, tmps.getD x undef]) w := by
  have e : (results fn tmps).run P w = ((asAddr (tmps.getD p undef)).run P w).andThen fun a w₁ => ((loadVar ty a).run P w₁).andThen fun y w₂ => .ok (.tuple #[y, tmps.getD u undef, tmps.getD x undef]) w₂ := by
    simp only [results, h]
    simp [Sem.run_bind, Result.andThen]
  have ha : (asAddr (.pointer (some ⟨B, 0, none⟩))).run P w = .ok ⟨B, 0, none⟩ w := by simp [asAddr]
  rw [e, hp, ha]
  simp only [Result.andThen]
  rw [hl]
theorem loadTk {a b : Value} {B : Nat} {w : World} (h : Box 88 [a, b] B w) : (loadVar 88 ⟨B, 0, none⟩).run Try.prog w = .ok (.agg #[a, b]) w := by
  have k0 := h.cell 0
  have k1 := h.cell 1
  simp only [List.getElem?_cons_zero, List.getElem?_cons_succ] at k0 k1
  simp [go_sem, k0, k1]
theorem Box.two {t : TypeId} {a b : Value} {B : Nat} {w : World} (h : Box t [a, b] B w) (x y : Value) : Box t [x, y] B ((w.setCell ⟨B, 0, none⟩ x).setCell ⟨B, 1, none⟩ y) :=
  (h.set 0 x).set 1 y
theorem below_two {base B : Nat} {a b : Value} {w0 w : World} (h : Below base w0 w) (hB : base ≤ B) : Below base w0 ((w.setCell ⟨B, 0, none⟩ a).setCell ⟨B, 1, none⟩ b) :=
  (h.setCell hB _).setCell hB _

/-- how the outcome of a piece is told: the token, how many bytes, no error; or no token, none, the error -/
def PlE : (((Int × Int) × Nat) ⊕ Int) → Ending
  | .inl (t, n) => .returned (.tuple #[.agg #[.int .i64 t.1, .int .i64 t.2], .int .i64 (n : Int), .int .i64 0])
  | .inr x => .returned (.tuple #[.agg #[.int .i64 0, .int .i64 0], .int .i64 0, .int .i64 x])
end Go.Proofs.Ytobicndpkojgiaa

/-! RefEsc -/
namespace Go.Proofs.Ytobicndpkojgiaa
open Go.RowKit

set_option maxHeartbeats 2000000 in
theorem refEsc (g s : Int) (w : World) (h0 : 0 ≤ g) (h3 : g ≤ 3) (hs : s ∈ tabSets ++ [103]) :
    Calls Try.prog 17 #[.int .i64 g, .int .i64 s] w fun e w' => ∃ x, e = .returned x ∧ Own .u8 5 w.heap.size w' x (escP g s) ∧ Below w.heap.size w w' := by
  obtain ⟨-, f1, f2⟩ := fin_of hs
  have h40 : IntKind.u8.wrap (40 + g) = 40 + g := by simp only [IntKind.wrap, IntKind.bits, IntKind.signed]; simp; omega
  have hfin : IntKind.u8.wrap (finalS s) = finalS s := by simp only [IntKind.wrap, IntKind.bits, IntKind.signed]; simp; omega
  have HF := hid (fun w => apiFinal s w)
  have HWD := hid (fun w => refWide16 s w)
  have HO0 := hid (lit_own (k := .u8) (w := w) (base := w.heap.size) (e := 5) (xs := [27]) (n := w.heap.size) (len := 1) (cs := #[.int .u8 27]) rfl (Nat.le_refl _) rfl rfl (by simp))
  have HB0 := hid (show Below w.heap.size w (w.alloc (.cells #[.int .u8 27] 5)) from by (repeat (first | exact Below.refl _ _ | exact below_drewN _ | refine Below.drew ?_ | refine Below.alloc ?_ (by simp) _ | refine Below.setCell ?_ (by simp) _ | refine below_drewN' ?_ _)))
  by_cases h87 : s = 87
  · have e87 : (s == 87) = true := by simpa using h87
    have HE := hid (show escP g s = [27] ++ [36] ++ [40 + g, finalS s] from by unfold escP; rw [if_pos h87]; rfl)
    rw [e87] at HWD
    generalize finalS s = fs at HF hfin HE
    clear h87 e87 hs f1 f2
    go_enter Try.func17, Try.ntmps17
    go_wp2_with (first
      | (have _u := HB2; clear _u; at_builtin; go_loud (refine wpList_app _ rfl _ _ 23 rfl .u8 w.heap.size 5 1 Try.underlying23 Try.infoU8 _ ([27] ++ [36]) [40 + g, fs] rfl (HO2.out.alloc _) _ rfl (lit_sl (by first | simp | rfl) rfl rfl (by simp)) (by simp [maxLen]) (by simp) (by have := HB2.out.size; simp at this ⊢; try omega) ?_); intro v4 w4 ho4 hg4 hb4 hn4; have HO4 := hid ho4; have HB4 := hid ((HB2.out.alloc HB2.out.size _).trans hb4); clear ho4 hg4 hb4 hn4)
      | (have _u := HB0; clear _u; at_builtin; go_loud (refine wpList_app _ rfl _ _ 23 rfl .u8 w.heap.size 5 1 Try.underlying23 Try.infoU8 _ [27] [36] rfl (HO0.out.alloc _) _ rfl (lit_sl (by first | simp | rfl) rfl rfl (by simp)) (by simp [maxLen]) (by simp) (by have := HB0.out.size; simp at this ⊢; try omega) ?_); intro v2 w2 ho2 hg2 hb2 hn2; have HO2 := hid ho2; have HB2 := hid ((HB0.out.alloc HB0.out.size _).trans hb2); clear ho2 hg2 hb2 hn2)
      | (go_at_call 34; refine (HF.out _).mono ?_; rintro e w3 ⟨rfl, rfl⟩)
      | (go_at_call 33; refine (HWD.out _).mono ?_; rintro e w1 ⟨rfl, rfl⟩))
    go_ret
    exact ⟨_, rfl, by rw [HE.out]; exact HO4.out, HB4.out⟩
  · have e87 : (s == 87) = false := by simpa using h87
    have HE := hid (show escP g s = [27] ++ [40 + g, finalS s] from by unfold escP; rw [if_neg h87]; rfl)
    rw [e87] at HWD
    generalize finalS s = fs at HF hfin HE
    clear h87 e87 hs f1 f2
    go_enter Try.func17, Try.ntmps17
    go_wp2_with (first
      | (have _u := HB0; clear _u; at_builtin; go_loud (refine wpList_app _ rfl _ _ 23 rfl .u8 w.heap.size 5 1 Try.underlying23 Try.infoU8 _ [27] [40 + g, fs] rfl (HO0.out.alloc _) _ rfl (lit_sl (by first | simp | rfl) rfl rfl (by simp)) (by simp [maxLen]) (by simp) (by have := HB0.out.size; simp at this ⊢; try omega) ?_); intro v4 w4 ho4 hg4 hb4 hn4; have HO4 := hid ho4; have HB4 := hid ((HB0.out.alloc HB0.out.size _).trans hb4); clear ho4 hg4 hb4 hn4)
      | (go_at_call 34; refine (HF.out _).mono ?_; rintro e w3 ⟨rfl, rfl⟩)
      | (go_at_call 33; refine (HWD.out _).mono ?_; rintro e w1 ⟨rfl, rfl⟩))
    go_ret
    exact ⟨_, rfl, by rw [HE.out]; exact HO4.out, HB4.out⟩
end Go.Proofs.Ytobicndpkojgiaa
