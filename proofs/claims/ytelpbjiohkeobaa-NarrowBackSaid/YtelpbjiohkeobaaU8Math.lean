/- Texts and their bytes of UTF-8, plainly: there and back, side by side. No conditions. -/
import Derived.Test.YtelpbjiohkeobaaU8Spec
namespace Go.Proofs.Ytelpbjiohkeobaa

/-- the bytes, or where the first number stands that is no scalar -/
def putU : List Int → List Int ⊕ Nat
  | [] => .inl []
  | c :: s => if scalarB c then (match putU s with | .inl x => .inl (u8enc c ++ x) | .inr k => .inr (k + 1)) else .inr 0
/-- the scalars, or where none begins -/
def getF : Nat → List Int → List Int ⊕ Nat
  | _, [] => .inl []
  | 0, _ :: _ => .inr 0
  | n + 1, c :: r => if (u8one (c :: r)).2 = 0 then .inr 0 else
      (match getF n ((c :: r).drop (u8one (c :: r)).2) with | .inl s => .inl ((u8one (c :: r)).1 :: s) | .inr k => .inr ((u8one (c :: r)).2 + k))
def getU (b : List Int) : List Int ⊕ Nat := getF b.length b
theorem getF_more : ∀ (n m : Nat) (b : List Int), b.length ≤ n → b.length ≤ m → getF n b = getF m b
  | n, m, [], _, _ => by cases n <;> cases m <;> rfl
  | 0, _, c :: r, h, _ => by simp at h
  | _ + 1, 0, c :: r, _, h => by simp at h
  | n + 1, m + 1, c :: r, h1, h2 => by
    simp only [getF]
    by_cases h0 : (u8one (c :: r)).2 = 0
    · rw [if_pos h0, if_pos h0]
    · rw [if_neg h0, if_neg h0, getF_more n m _ (by simp at h1 ⊢; omega) (by simp at h2 ⊢; omega)]
/-- one step -/
theorem getU_step {b : List Int} (hb : b ≠ []) : getU b = if (u8one b).2 = 0 then .inr 0 else (match getU (b.drop (u8one b).2) with | .inl s => .inl ((u8one b).1 :: s) | .inr k => .inr ((u8one b).2 + k)) := by
  cases b with
  | nil => exact absurd rfl hb
  | cons c r =>
    unfold getU
    simp only [List.length_cons, getF]
    by_cases h0 : (u8one (c :: r)).2 = 0
    · rw [if_pos h0, if_pos h0]
    · rw [if_neg h0, if_neg h0, getF_more r.length _ _ (by simp; omega) (Nat.le_refl _)]
theorem getU_nil : getU [] = .inl [] := rfl
/-- what stands behind a text's bytes is read as if it stood alone -/
theorem get_app : ∀ {a x : List Int} (c : List Int), putU a = .inl x → getU (x ++ c) = match getU c with | .inl t => .inl (a ++ t) | .inr k => .inr (x.length + k)
  | [], x, c, h => by
    simp only [putU, Sum.inl.injEq] at h
    subst h
    simp only [List.nil_append]
    cases getU c <;> simp
  | a :: s, x, c, h => by
    simp only [putU] at h
    by_cases hs : scalarB a = true
    · rw [if_pos hs] at h
      cases hp : putU s with
      | inr k => rw [hp] at h; cases h
      | inl y =>
        rw [hp] at h
        simp only [Sum.inl.injEq] at h
        subst h
        have hl := u8enc_len a
        have h1 := one_enc hs (y ++ c)
        have hne : u8enc a ++ (y ++ c) ≠ [] := fun e => by
          have := congrArg List.length e
          rw [List.length_append, List.length_nil] at this
          omega
        rw [List.append_assoc, getU_step hne, h1]
        simp only
        rw [if_neg (show ¬ (u8enc a).length = 0 by omega), List.drop_left, get_app c hp]
        cases getU c with
        | inl t => simp
        | inr k => simp only [List.length_append, Sum.inr.injEq]; omega
    · rw [if_neg hs] at h
      cases h
theorem put_get {a x : List Int} (h : putU a = .inl x) : getU x = .inl a := by
  have := get_app [] h
  rw [List.append_nil, getU_nil] at this
  simpa using this
theorem put_u8 : ∀ {a x : List Int}, putU a = .inl x → U8 x
  | [], x, h => by
    simp only [putU, Sum.inl.injEq] at h
    subst h
    intro y hy
    cases hy
  | a :: s, x, h => by
    simp only [putU] at h
    by_cases hs : scalarB a = true
    · rw [if_pos hs] at h
      cases hp : putU s with
      | inr k => rw [hp] at h; cases h
      | inl y =>
        rw [hp] at h
        simp only [Sum.inl.injEq] at h
        subst h
        intro z hz
        rcases List.mem_append.1 hz with hz | hz
        · exact u8enc_u8 hs z hz
        · exact put_u8 hp z hz
    · rw [if_neg hs] at h
      cases h
theorem put_len : ∀ {a x : List Int}, putU a = .inl x → a.length ≤ x.length ∧ x.length ≤ 4 * a.length
  | [], x, h => by
    simp only [putU, Sum.inl.injEq] at h
    subst h
    simp
  | a :: s, x, h => by
    simp only [putU] at h
    by_cases hs : scalarB a = true
    · rw [if_pos hs] at h
      cases hp : putU s with
      | inr k => rw [hp] at h; cases h
      | inl y =>
        rw [hp] at h
        simp only [Sum.inl.injEq] at h
        subst h
        have h1 := put_len hp
        have h2 := u8enc_len a
        simp only [List.length_append, List.length_cons]
        omega
    · rw [if_neg hs] at h
      cases h
theorem put_bad : ∀ {a : List Int} {k : Nat}, putU a = .inr k → k < a.length ∧ scalarB (a.getD k 0) = false
  | [], k, h => by simp [putU] at h
  | a :: s, k, h => by
    simp only [putU] at h
    by_cases hs : scalarB a = true
    · rw [if_pos hs] at h
      cases hp : putU s with
      | inl y => rw [hp] at h; cases h
      | inr j =>
        rw [hp] at h
        simp only [Sum.inr.injEq] at h
        subst h
        have := put_bad hp
        simp only [List.length_cons]
        exact ⟨by omega, by simpa using this.2⟩
    · rw [if_neg hs] at h
      simp only [Sum.inr.injEq] at h
      subst h
      exact ⟨by simp, by simpa using hs⟩
theorem put_app : ∀ (a b : List Int), putU (a ++ b) = match putU a with | .inl x => (match putU b with | .inl y => .inl (x ++ y) | .inr k => .inr (a.length + k)) | .inr k => .inr k
  | [], b => by
    simp only [List.nil_append, putU]
    cases putU b <;> simp
  | a :: s, b => by
    simp only [List.cons_append, putU]
    by_cases hs : scalarB a = true
    · rw [if_pos hs, if_pos hs, put_app s b]
      cases putU s with
      | inr k => rfl
      | inl x =>
        cases putU b with
        | inl y => simp
        | inr k => simp only [List.length_cons, Sum.inr.injEq]; omega
    · rw [if_neg hs, if_neg hs]
theorem get_put : ∀ (n : Nat) {b s : List Int}, b.length ≤ n → U8 b → getU b = .inl s → putU s = .inl b
  | n, [], s, _, _, h => by
    rw [getU_nil] at h
    simp only [Sum.inl.injEq] at h
    subst h
    rfl
  | 0, c :: r, s, hn, _, _ => by simp at hn
  | n + 1, c :: r, s, hn, hu, h => by
    rw [getU_step (by simp)] at h
    by_cases h0 : (u8one (c :: r)).2 = 0
    · rw [if_pos h0] at h; cases h
    · rw [if_neg h0] at h
      obtain ⟨h1, h2, h3⟩ := enc_one hu (show u8one (c :: r) = ((u8one (c :: r)).1, (u8one (c :: r)).2) from rfl) h0
      cases hg : getU ((c :: r).drop (u8one (c :: r)).2) with
      | inr k => rw [hg] at h; cases h
      | inl t =>
        rw [hg] at h
        simp only [Sum.inl.injEq] at h
        subst h
        have ih := get_put n (by simp at hn ⊢; omega) (fun x hx => hu x (List.mem_of_mem_drop hx)) hg
        simp only [putU]
        rw [if_pos h1, ih, h2]
        simp only [List.take_append_drop]
theorem get_bad : ∀ (n : Nat) {b : List Int} {k : Nat}, b.length ≤ n → U8 b → getU b = .inr k → k < b.length
  | n, [], k, _, _, h => by rw [getU_nil] at h; cases h
  | 0, c :: r, k, hn, _, _ => by simp at hn
  | n + 1, c :: r, k, hn, hu, h => by
    rw [getU_step (by simp)] at h
    by_cases h0 : (u8one (c :: r)).2 = 0
    · rw [if_pos h0] at h
      simp only [Sum.inr.injEq] at h
      subst h
      simp
    · rw [if_neg h0] at h
      obtain ⟨-, -, h3⟩ := enc_one hu (show u8one (c :: r) = ((u8one (c :: r)).1, (u8one (c :: r)).2) from rfl) h0
      cases hg : getU ((c :: r).drop (u8one (c :: r)).2) with
      | inl t => rw [hg] at h; cases h
      | inr j =>
        rw [hg] at h
        simp only [Sum.inr.injEq] at h
        subst h
        have ih := get_bad n (by simp at hn ⊢; omega) (fun x hx => hu x (List.mem_of_mem_drop hx)) hg
        rw [List.length_drop] at ih
        omega
theorem get_len {b s : List Int} (hu : U8 b) (h : getU b = .inl s) : s.length ≤ b.length ∧ b.length ≤ 4 * s.length := put_len (get_put _ (Nat.le_refl _) hu h)
theorem put_scalars : ∀ {a x : List Int}, putU a = .inl x → ∀ c ∈ a, scalarB c = true
  | [], _, _, c, hc => by cases hc
  | a :: s, x, h, c, hc => by
    simp only [putU] at h
    by_cases hs : scalarB a = true
    · rw [if_pos hs] at h
      cases hp : putU s with
      | inr k => rw [hp] at h; cases h
      | inl y =>
        rcases List.mem_cons.1 hc with rfl | hc
        · exact hs
        · exact put_scalars hp c hc
    · rw [if_neg hs] at h
      cases h
theorem get_scalars {b s : List Int} (hu : U8 b) (h : getU b = .inl s) : ∀ c ∈ s, scalarB c = true := put_scalars (get_put _ (Nat.le_refl _) hu h)
/-- the three results -/
def outL : List Int ⊕ Nat → List Int
  | .inl x => x
  | .inr _ => []
def outAt : List Int ⊕ Nat → Nat
  | .inl _ => 0
  | .inr k => k
def outE (err : Int) : List Int ⊕ Nat → Int
  | .inl _ => 0
  | .inr _ => err
/-- what was got so far, and what is still to come -/
def goOn (t : List Int) (at_ : Nat) : List Int ⊕ Nat → List Int ⊕ Nat
  | .inl u => .inl (t ++ u)
  | .inr k => .inr (at_ + k)
end Go.Proofs.Ytelpbjiohkeobaa
