/- Several texts in one: TelPlaces. -/
import Derived.Test.YtildhebaikeknaaGreatPk23
/-! TelPlaces -/
namespace Go.Proofs.YtildhebaikeknaaGreat

/-- reading goes on behind what is read without an error -/
theorem read_behind {a b : List Int} {T : List (Int × Int)} {s : Rd} (h : tkF a.length rd0 a = .inl (T, s)) {U : List (Int × Int)} {z : Rd} (h2 : tkF b.length s b = .inl (U, z)) : read18 (a ++ b) = meanS (T ++ U) := by
  unfold read18 tokS
  rw [tkF_app a.length rd0 s a b T (Nat.le_refl _) h _ (Nat.le_refl _), tkF_fuel _ b.length _ _ (by simp) (Nat.le_refl _), h2]
def headP (g : Int) : List Int := if g = 0 then [] else if g = 1 then [14] else if g = 2 then [27, 110] else [27, 111]
theorem esc_any {g set : Int} (hs : set ∈ tabSets ++ [103]) (h0 : 0 ≤ g) (h3 : g ≤ 3) : tkF (escP g set).length rd0 (escP g set) = .inl ([], ⟨rd0.g.set g.toNat set, 0, 2⟩) := by
  have h := tk_esc (st := rd0) [] hs h0 h3
  rw [List.append_nil] at h
  exact tkF_one h rfl (Nat.le_refl _)
theorem head_read {l : List Int} {g : Int} (h0 : 0 ≤ g) (h3 : g ≤ 3) : tkF (headP g).length ⟨l, 0, 2⟩ (headP g) = .inl ([], ⟨l, g.toNat, 2⟩) := by
  rcases (show g = 0 ∨ g = 1 ∨ g = 2 ∨ g = 3 by omega) with rfl | rfl | rfl | rfl <;> rfl
/-- an escape sequence, and its set on the left -/
theorem sethead {g set : Int} (hs : set ∈ tabSets ++ [103]) (h0 : 0 ≤ g) (h3 : g ≤ 3) : ∃ st : Rd, tkF (escP g set ++ headP g).length rd0 (escP g set ++ headP g) = .inl ([], st) ∧ st.g.getD st.left 0 = set := by
  refine ⟨⟨rd0.g.set g.toNat set, g.toNat, 2⟩, ?_, ?_⟩
  · rw [tkF_app (escP g set).length rd0 _ (escP g set) (headP g) [] (Nat.le_refl _) (esc_any hs h0 h3) _ (Nat.le_refl _), tkF_fuel _ (headP g).length _ _ (by simp) (Nat.le_refl _), head_read h0 h3]
    rfl
  · rcases (show g = 0 ∨ g = 1 ∨ g = 2 ∨ g = 3 by omega) with rfl | rfl | rfl | rfl <;> rfl
theorem place_read {r : Rg} (hr : r ∈ tabCodes) {g : Int} (h0 : 0 ≤ g) (h3 : g ≤ 3) : read18 (escP g r.f ++ headP g ++ bytP r.t) = .inl [r.v] := by
  obtain ⟨st, h1, h2⟩ := sethead (code_set hr) h0 h3
  have hk := tk_row hr h2 (f := (bytP r.t).length + 2) (by omega)
  rw [tkF_fuel _ (bytP r.t).length _ _ (by omega) (Nat.le_refl _)] at hk
  rw [read_behind h1 hk]
  have h00 : r.f ≠ 0 := fun e => by have := code_set hr; rw [e] at this; exact absurd this (by decide)
  have := mean_one (t := (r.f, r.t)) (c := r.v) [] (.inr ⟨h00, (code_row hr).1⟩)
  exact this
theorem place_bad {r : Rg} (hr : r ∈ tabCodes) {g p : Int} (h0 : 0 ≤ g) (h3 : g ≤ 3) (hp : 33 ≤ p ∧ p ≤ 126) (h87 : r.f ≠ 87) (h103 : r.f ≠ 103) (hn : (getS16 r.f p).2 = false) : read18 (escP g r.f ++ headP g ++ [p]) = .inr (0, 13) := by
  obtain ⟨st, h1, h2⟩ := sethead (code_set hr) h0 h3
  have h00 : r.f ≠ 0 := fun e => by have := code_set hr; rw [e] at this; exact absurd this (by decide)
  rw [read_behind h1 (tkF_one (tk_left [] h2 h00 h87 hp.1 hp.2) rfl (Nat.le_refl _))]
  simp [meanS, h00, hn, h103]
theorem direct_read {r : Rg} (hr : r ∈ tabCodes) (h103 : r.f = 103) {set : Int} (hs : set ∈ tabSets) : read18 (escP 0 set ++ [r.t + 128]) = .inl [r.v] := by
  obtain ⟨hget, -, h87, hm, hd, h0, -⟩ := code_row hr
  have h255 : r.t ≤ 255 := by
    have : decide (255 < r.t) = false := by rw [← h87, h103]; rfl
    have := of_decide_eq_false this
    omega
  have h1 := esc_any (g := 0) (set_ne hs) (by decide) (by decide)
  rw [read_behind h1 (tkF_one (tk_right (set := 103) (p := r.t) [] (by rfl) (by decide) (by decide) (by omega) (by omega)) rfl (Nat.le_refl _))]
  exact mean_one (t := (103, r.t)) (c := r.v) [] (.inr ⟨by show (103 : Int) ≠ 0; decide, by rw [← h103]; exact hget⟩)
/-- so many letters x, and what stands behind them -/
theorem xs_read : ∀ (n : Nat) (b : List Int), tkF (List.replicate n (120 : Int) ++ b).length rd0 (List.replicate n (120 : Int) ++ b) = match tkF b.length rd0 b with | .inl (l, z) => .inl (List.replicate n ((102 : Int), (120 : Int)) ++ l, z) | .inr (i, e) => .inr (n + i, e)
  | 0, b => by
    simp only [List.replicate_zero, List.nil_append]
    cases tkF b.length rd0 b with
    | inl x => rfl
    | inr x => obtain ⟨i, e⟩ := x; simp
  | n + 1, b => by
    have h := xs_read n b
    rw [List.replicate_succ, List.cons_append, List.length_cons, tkF_step (by simp), tk_left (st := rd0) (set := 102) _ (by rfl) (by decide) (by decide) (by decide) (by decide)]
    simp only [List.drop_succ_cons, List.drop_zero]
    rw [h]
    cases tkF b.length rd0 b with
    | inl x => obtain ⟨l, z⟩ := x; simp [List.replicate_succ]
    | inr x => obtain ⟨i, e⟩ := x; simp only [Sum.inr.injEq, Prod.mk.injEq, and_true]; omega
theorem x_get : getS16 102 120 = (120, true) := by decide +kernel
theorem xs_mean : ∀ (n : Nat) (U : List (Int × Int)), meanS (List.replicate n ((102 : Int), (120 : Int)) ++ U) = match meanS U with | .inl l => .inl (List.replicate n (120 : Int) ++ l) | .inr (i, e) => .inr (n + i, e)
  | 0, U => by
    simp only [List.replicate_zero, List.nil_append]
    cases meanS U with
    | inl x => rfl
    | inr x => obtain ⟨i, e⟩ := x; simp
  | n + 1, U => by
    rw [List.replicate_succ, List.cons_append, mean_one (t := ((102 : Int), (120 : Int))) (c := 120) _ (.inr ⟨(by decide : (102 : Int) ≠ 0), x_get⟩), xs_mean n U]
    cases meanS U with
    | inl x => simp [consM, List.replicate_succ]
    | inr x => obtain ⟨i, e⟩ := x; simp only [consM, Sum.inr.injEq, Prod.mk.injEq, and_true]; omega
theorem xs_all (n : Nat) {b : List Int} {U : List (Int × Int)} {z : Rd} (h : tkF b.length rd0 b = .inl (U, z)) : read18 (List.replicate n (120 : Int) ++ b) = match meanS U with | .inl l => .inl (List.replicate n (120 : Int) ++ l) | .inr (i, e) => .inr (n + i, e) := by
  unfold read18 tokS
  rw [xs_read, h]
  exact xs_mean n U
theorem acc_at {r : Rg} (hr : r ∈ tabAccents) : 65 ≤ r.f ∧ r.f ≤ 79 := by
  have := List.all_eq_true.1 acc_place r hr
  rwa [decide_eq_true_iff] at this
theorem acc_letter (n : Nat) {r : Rg} (hr : r ∈ tabAccents) {c : Int} (hc : letB c = true) : read18 (List.replicate n (120 : Int) ++ [r.f + 128, c]) = if (pairS c r.t).2 = true then .inl (List.replicate n (120 : Int) ++ [(pairS c r.t).1]) else .inr (n, 13) := by
  obtain ⟨hq1, hq2⟩ := acc_at hr
  obtain ⟨hm, hno, -⟩ := acc_row hr
  have hc32 : c ≠ 32 := by unfold letB at hc; rw [decide_eq_true_iff] at hc; omega
  have h1 := tkF_two (g := 102) (q := r.f) (le := c) hq1 hq2 (.inr ⟨hc, by decide, by decide⟩) (f := 2) (Nat.le_refl _)
  rw [if_neg hc32] at h1
  rw [xs_all n (show tkF [r.f + 128, c].length rd0 [r.f + 128, c] = _ from h1)]
  cases hp : pairS c r.t with
  | mk m ok =>
    cases ok with
    | true =>
      rw [if_pos rfl, mean_pair [] hno hm (.inl rfl) (let_get hc).1 hc hp]
      rfl
    | false =>
      rw [if_neg (by simp)]
      have hg := (let_get hc).1
      have : meanS [(103, r.f), (102, c)] = .inr (0, 13) := by simp [meanS, hno, hm, hg, hp]
      rw [this]
      rfl
theorem acc_space (n : Nat) {r : Rg} (hr : r ∈ tabAccents) : read18 (List.replicate n (120 : Int) ++ [r.f + 128, 32]) = .inl (List.replicate n (120 : Int) ++ [r.v]) := by
  obtain ⟨hq1, hq2⟩ := acc_at hr
  obtain ⟨hm, hno, -⟩ := acc_row hr
  have h1 := tkF_two (g := 102) (q := r.f) (le := 32) hq1 hq2 (.inl rfl) (f := 2) (Nat.le_refl _)
  rw [if_pos rfl] at h1
  rw [xs_all n (show tkF [r.f + 128, 32].length rd0 [r.f + 128, 32] = _ from h1), mean_alone [] hno hm]
  rfl
theorem acc_end (n : Nat) {r : Rg} (hr : r ∈ tabAccents) : read18 (List.replicate n (120 : Int) ++ [r.f + 128]) = .inr (n, 2) := by
  obtain ⟨hq1, hq2⟩ := acc_at hr
  obtain ⟨hm, hno, -⟩ := acc_row hr
  have h1 := tkF_one (tk_right (st := rd0) (set := 103) (p := r.f) [] (by rfl) (by decide) (by decide) (by omega) (by omega)) rfl (f := 1) (by simp)
  rw [xs_all n (show tkF [r.f + 128].length rd0 [r.f + 128] = _ from h1)]
  have : meanS [(103, r.f)] = .inr (0, 2) := by simp [meanS, hno, hm]
  rw [this]
  rfl
theorem one_get : getS16 102 49 = (49, true) := by decide +kernel
theorem acc_digit (n : Nat) {r : Rg} (hr : r ∈ tabAccents) : read18 (List.replicate n (120 : Int) ++ [r.f + 128, 49]) = .inr (n, 13) := by
  obtain ⟨hq1, hq2⟩ := acc_at hr
  obtain ⟨hm, hno, -⟩ := acc_row hr
  have h1 : tkF 2 rd0 [r.f + 128, 49] = .inl ([(103, r.f), (102, 49)], rd0) := by
    have h0 : tkS rd0 [r.f + 128, 49] = .inl ([(103, r.f)], 1, rd0) := tk_right [49] (by rfl) (by decide) (by decide) (by omega) (by omega)
    rw [tkF_step (by simp), h0]
    simp only [List.drop_succ_cons, List.drop_zero]
    rw [tkF_one (tk_left (st := rd0) (set := 102) [] (by rfl) (by decide) (by decide) (by decide) (by decide)) rfl (by simp)]
    rfl
  rw [xs_all n (show tkF [r.f + 128, 49].length rd0 [r.f + 128, 49] = _ from h1)]
  have hl : letB 49 = false := by decide
  have : meanS [(103, r.f), (102, 49)] = .inr (0, 13) := by simp [meanS, hno, hm, one_get, hl]
  rw [this]
  rfl
/-- letters, digits and the space -/
def plainN (n : Nat) : Bool := n == 32 || ((decide (48 ≤ n) && decide (n ≤ 57)) || ((decide (65 ≤ n) && decide (n ≤ 90)) || (decide (97 ≤ n) && decide (n ≤ 122))))
theorem plain_one : ((List.range 128).all fun n => !plainN n || decide (oneP 102 (n : Int) = some ([(n : Int)], 102))) = true := by decide +kernel
theorem ascii_has : ((List.range 128).all fun n => has18 (n : Int) == (decide (32 ≤ n ∧ n < 127) || (n == 8 || (n == 10 || (n == 12 || n == 13))))) = true := by decide +kernel
theorem plain_put : ∀ s : List Int, (∀ c ∈ s, ∃ n : Nat, n < 128 ∧ plainN n = true ∧ c = (n : Int)) → putF 102 s = .inl s
  | [], _ => rfl
  | c :: r, h => by
    obtain ⟨n, hn, hp, rfl⟩ := h c (by simp)
    have h1 := List.all_eq_true.1 plain_one n (List.mem_range.2 hn)
    rw [hp] at h1
    simp only [Bool.not_true, Bool.false_or, decide_eq_true_eq] at h1
    rw [putF, h1]
    simp only
    rw [plain_put r fun x hx => h x (List.mem_cons_of_mem _ hx)]
    rfl
/-- what ShiftSets lays: the escape sequence, a shift, a character -/
def shP (r : Bool) (g : Nat) : List Int := if r = true ∧ 0 < g then [27, 127 - (g : Int)] else if g = 1 then [14] else if g = 2 then [25] else if g = 3 then [29] else []
def chP (r : Bool) (g : Nat) (set p : Int) : List Int := (if set = 87 then [p, p] else [p]).map fun x => if r = true ∧ 0 < g then x + 128 else x
def setsOk (i g p : Nat) (r : Bool) : Bool :=
  decide (tokS (escP (g : Int) ((tabSets ++ [103]).getD i 0) ++ shP r g ++ chP r g ((tabSets ++ [103]).getD i 0) (33 + (p : Int))) = .inl [((tabSets ++ [103]).getD i 0, if (tabSets ++ [103]).getD i 0 = 87 then 257 * (33 + (p : Int)) else 33 + (p : Int))])
theorem sets_ok : ((List.range 7).all fun i => (List.range 4).all fun g => (List.range 94).all fun p => setsOk i g p true && setsOk i g p false) = true := by decide +kernel
end Go.Proofs.YtildhebaikeknaaGreat
