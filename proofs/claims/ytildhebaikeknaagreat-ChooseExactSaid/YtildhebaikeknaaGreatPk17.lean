/- Several texts in one: CsFacts. -/
import Derived.Test.YtildhebaikeknaaGreatPk16
/-! CsFacts -/
namespace Go.Proofs.YtildhebaikeknaaGreat
theorem fndS_mem {p : Rg → Bool} : ∀ {l : List Rg} {r : Rg}, fndS p l = (r, true) → r ∈ l ∧ p r = true
  | [], r, h => by simp [fndS] at h
  | x :: l, r, h => by
    rw [fndS] at h
    by_cases hx : p x = true
    · rw [if_pos hx] at h
      simp only [Prod.mk.injEq, and_true] at h
      subst h
      exact ⟨List.mem_cons_self, hx⟩
    · rw [if_neg hx] at h
      obtain ⟨h1, h2⟩ := fndS_mem h
      exact ⟨List.mem_cons_of_mem _ h1, h2⟩
theorem fndS_no {p : Rg → Bool} : ∀ {l : List Rg} {r : Rg}, fndS p l = (r, false) → r = noRg
  | [], r, h => by simp [fndS] at h; exact h.symm
  | x :: l, r, h => by
    rw [fndS] at h
    by_cases hx : p x = true
    · rw [if_pos hx] at h; cases h
    · rw [if_neg hx] at h
      exact fndS_no h
theorem getD_mem {l : List Rg} {j : Nat} (h : j < l.length) : l.getD j noRg ∈ l := by
  rw [List.getD_eq_getElem?_getD, List.getElem?_eq_getElem h]
  exact List.getElem_mem h
def codeOk (r : Rg) : Bool :=
  decide (getS16 r.f r.t = (r.v, true)) && (decide ((findS16 r.f r.v).2 = true) && (decide (getS16 r.f (findS16 r.f r.v).1 = (r.v, true)) && (scalarB r.v && ((r.f == 87) == decide (255 < r.t) && (decide (33 ≤ r.t % 256 ∧ r.t % 256 ≤ 126) && (decide (r.t ≤ 255 ∨ (33 ≤ r.t / 256 ∧ r.t / 256 ≤ 126)) && (inI r.f && inI r.t && inI r.v && (inI (findS16 r.f r.v).1 && decide (0 ≤ r.t)))))))))
theorem codes_ok : tabCodes.all codeOk = true := by decide +kernel
theorem codes_len : tabCodes.length ≤ 1000 ∧ 0 < tabCodes.length := by decide +kernel
def accOk (r : Rg) : Bool := decide (markS r.f = (r.t, r.v, true)) && (decide ((getS16 103 r.f).2 = false) && (decide (accS r.v = (r.f, 32, true)) && (inI r.f && inI r.v && inI r.t)))
theorem acc_ok : tabAccents.all accOk = true := by decide +kernel
theorem acc_row {r : Rg} (h : r ∈ tabAccents) : markS r.f = (r.t, r.v, true) ∧ (getS16 103 r.f).2 = false ∧ accS r.v = (r.f, 32, true) ∧ inI r.f = true ∧ inI r.v = true ∧ inI r.t = true := by
  have := List.all_eq_true.1 acc_ok r h
  unfold accOk at this
  simp only [Bool.and_eq_true, decide_eq_true_eq] at this
  exact ⟨this.1, this.2.1, this.2.2.1, this.2.2.2.1.1, this.2.2.2.1.2, this.2.2.2.2⟩
/-- an accent and a letter are those that make the scalar -/
theorem acc_facts {c q le : Int} (h : accS c = (q, le, true)) : ∃ n lone, markS q = (n, lone, true) ∧ inI q = true ∧ inI n = true ∧ ((le = 32 ∧ lone = c) ∨ (le ≠ 32 ∧ pairS le n = (c, true) ∧ letB le = true ∧ inI le = true)) := by
  unfold accS at h
  cases hf : fndS (fun r => r.v == c) tabAccents with
  | mk r b =>
    rw [hf] at h
    cases b with
    | true =>
      simp only [if_true, Prod.mk.injEq, and_true] at h
      obtain ⟨h1, h2⟩ := h
      obtain ⟨hm, hv⟩ := fndS_mem hf
      obtain ⟨m1, m2, m3, m4, m5, m6⟩ := acc_row hm
      have hv : r.v = c := by simpa using hv
      subst h1 h2
      exact ⟨_, _, m1, m4, m6, .inl ⟨rfl, hv⟩⟩
    | false =>
      simp only [Bool.false_eq_true, if_false] at h
      unfold accTwo at h
      by_cases h1 : (canonS c).length = 2 ∧ letB ((canonS c).getD 0 0) = true
      · rw [if_pos h1] at h
        obtain ⟨-, hl⟩ := h1
        generalize (canonS c).getD 0 0 = x at h hl
        generalize (canonS c).getD 1 0 = y at h
        cases hp : pairS x y with
        | mk m z =>
          rw [hp] at h
          by_cases h2 : (z && m == c) = true
          · rw [if_pos h2] at h
            simp only [Bool.and_eq_true, beq_iff_eq] at h2
            obtain ⟨hz, hmc⟩ := h2
            cases hg : fndS (fun r => r.t == y) tabAccents with
            | mk r2 b2 =>
              rw [hg] at h
              cases b2 with
              | true =>
                simp only [if_true, Prod.mk.injEq, and_true] at h
                obtain ⟨h3, h4⟩ := h
                obtain ⟨hm, hv⟩ := fndS_mem hg
                obtain ⟨m1, m2, m3, m4, m5, m6⟩ := acc_row hm
                have hv : r2.t = y := by simpa using hv
                subst h3 h4
                have hr := of_decide_eq_true hl
                exact ⟨_, _, m1, m4, m6, .inr ⟨by omega, by rw [hv, hp, hz, hmc], hl, inI_of (by omega)⟩⟩
              | false => simp at h
          · rw [if_neg h2] at h; simp at h
      · rw [if_neg h1] at h; simp at h
theorem acc_none {c q le : Int} (h : accS c = (q, le, false)) : q = 0 ∧ le = 0 := by
  unfold accS at h
  cases hf : fndS (fun r => r.v == c) tabAccents with
  | mk r b =>
    rw [hf] at h
    cases b with
    | true => simp at h
    | false =>
      simp only [Bool.false_eq_true, if_false] at h
      unfold accTwo at h
      by_cases h1 : (canonS c).length = 2 ∧ letB ((canonS c).getD 0 0) = true
      · rw [if_pos h1] at h
        by_cases h2 : ((pairS ((canonS c).getD 0 0) ((canonS c).getD 1 0)).2 && (pairS ((canonS c).getD 0 0) ((canonS c).getD 1 0)).1 == c) = true
        · rw [if_pos h2] at h
          by_cases h3 : (fndS (fun r => r.t == (canonS c).getD 1 0) tabAccents).2 = true
          · rw [if_pos h3] at h; simp at h
          · rw [if_neg h3] at h; simp at h; exact ⟨h.1.symm, h.2.symm⟩
        · rw [if_neg h2] at h; simp at h; exact ⟨h.1.symm, h.2.symm⟩
      · rw [if_neg h1] at h; simp at h; exact ⟨h.1.symm, h.2.symm⟩
def finOk (s : Int) : Bool := decide (byFinS (finalS s) (s == 87) = (s, true)) && decide (48 ≤ finalS s ∧ finalS s ≤ 126)
theorem fin_ok : (tabSets ++ [103]).all finOk = true := by decide +kernel
theorem fin_zero : (byFinS 0 false).2 = false := by decide +kernel
theorem fndI_mem {p : Int → Bool} : ∀ {l : List Int} {x : Int}, fndI p l = (x, true) → x ∈ l ∧ p x = true
  | [], x, h => by simp [fndI] at h
  | y :: l, x, h => by
    rw [fndI] at h
    by_cases hx : p y = true
    · rw [if_pos hx] at h
      simp only [Prod.mk.injEq, and_true] at h
      subst h
      exact ⟨List.mem_cons_self, hx⟩
    · rw [if_neg hx] at h
      obtain ⟨h1, h2⟩ := fndI_mem h
      exact ⟨List.mem_cons_of_mem _ h1, h2⟩
theorem fin_back {b u : Int} {wide : Bool} (h : byFinS b wide = (u, true)) : finalS u = b ∧ (u == 87) = wide := by
  obtain ⟨-, h⟩ := fndI_mem h
  unfold finB at h
  simp only [Bool.and_eq_true, beq_iff_eq] at h
  exact ⟨h.2.1, h.2.2⟩
end Go.Proofs.YtildhebaikeknaaGreat
