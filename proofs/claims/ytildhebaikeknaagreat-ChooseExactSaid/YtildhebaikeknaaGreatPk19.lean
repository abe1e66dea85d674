/- Several texts in one: U8Spec, U8Math, Fix, WideSpec, U8Ok, WideOk, Utf13a, Ref14, Ref14b. -/
import Derived.Test.YtildhebaikeknaaGreatPk1
import Derived.Test.YtildhebaikeknaaGreatPk18
import Derived.BigQuiet
/-! U8Spec -/
namespace Go.Proofs.YtildhebaikeknaaGreat

def u8enc (c : Int) : List Int :=
  if c < 128 then [c] else if c < 2048 then [192 + c / 64, 128 + c % 64]
  else if c < 65536 then [224 + c / 4096, 128 + c / 64 % 64, 128 + c % 64]
  else [240 + c / 262144, 128 + c / 4096 % 64, 128 + c / 64 % 64, 128 + c % 64]
/-- how many bytes begin with this one (0: none does), and what it gives -/
def lead (c : Int) : Nat × Int :=
  if 192 ≤ c ∧ c < 224 then (2, c - 192) else if 224 ≤ c ∧ c < 240 then (3, c - 224) else if 240 ≤ c ∧ c < 248 then (4, c - 240) else (0, c)
/-- the bytes that go on -/
def cont : Int → List Int → Option Int
  | c, [] => some c
  | c, b :: r => if b < 128 ∨ 192 ≤ b then none else cont (64 * c + b - 128) r
def u8one : List Int → Int × Nat
  | [] => (0, 0)
  | c0 :: r => if c0 < 128 then (c0, 1) else
      if (lead c0).1 = 0 ∨ r.length + 1 < (lead c0).1 then (0, 0) else
        match cont (lead c0).2 (r.take ((lead c0).1 - 1)) with
        | none => (0, 0)
        | some c => if scalarB c = true ∧ (u8enc c).length = (lead c0).1 then (c, (lead c0).1) else (0, 0)
theorem u8enc_len (c : Int) : 1 ≤ (u8enc c).length ∧ (u8enc c).length ≤ 4 := by
  unfold u8enc
  split
  · simp
  split
  · simp
  split <;> simp
theorem u8enc_u8 {c : Int} (h : scalarB c = true) : U8 (u8enc c) := by
  unfold scalarB at h
  have h := of_decide_eq_true h
  unfold u8enc
  split
  · intro x hx; simp at hx; omega
  split
  · intro x hx; simp at hx; omega
  split <;> (intro x hx; simp at hx; omega)
theorem one_enc {c : Int} (h : scalarB c = true) (r : List Int) : u8one (u8enc c ++ r) = (c, (u8enc c).length) := by
  have hs := h
  unfold scalarB at hs
  have hs := of_decide_eq_true hs
  by_cases h1 : c < 128
  · simp [u8enc, h1, u8one]
  by_cases h2 : c < 2048
  · have e : u8enc c = [192 + c / 64, 128 + c % 64] := by simp [u8enc, h1, h2]
    have l : lead (192 + c / 64) = (2, c / 64) := by unfold lead; rw [if_pos (by omega)]; congr 1; omega
    rw [e]
    simp only [List.cons_append, List.nil_append, u8one, l]
    rw [if_neg (by omega), if_neg (by simp)]
    have ec : cont (c / 64) (((128 + c % 64) :: r).take (2 - 1)) = some c := by
      simp only [Nat.reduceSub, List.take_succ_cons, List.take_zero, cont]
      rw [if_neg (by omega)]
      congr 1
      omega
    rw [ec]
    simp [h, e]
  by_cases h3 : c < 65536
  · have e : u8enc c = [224 + c / 4096, 128 + c / 64 % 64, 128 + c % 64] := by simp [u8enc, h1, h2, h3]
    have l : lead (224 + c / 4096) = (3, c / 4096) := by unfold lead; rw [if_neg (by omega), if_pos (by omega)]; congr 1; omega
    rw [e]
    simp only [List.cons_append, List.nil_append, u8one, l]
    rw [if_neg (by omega), if_neg (by simp)]
    have ec : cont (c / 4096) (((128 + c / 64 % 64) :: (128 + c % 64) :: r).take (3 - 1)) = some c := by
      simp only [Nat.reduceSub, List.take_succ_cons, List.take_zero, cont]
      rw [if_neg (by omega), if_neg (by omega)]
      congr 1
      omega
    rw [ec]
    simp [h, e]
  · have e : u8enc c = [240 + c / 262144, 128 + c / 4096 % 64, 128 + c / 64 % 64, 128 + c % 64] := by simp [u8enc, h1, h2, h3]
    have l : lead (240 + c / 262144) = (4, c / 262144) := by unfold lead; rw [if_neg (by omega), if_neg (by omega), if_pos (by omega)]; congr 1; omega
    rw [e]
    simp only [List.cons_append, List.nil_append, u8one, l]
    rw [if_neg (by omega), if_neg (by simp)]
    have ec : cont (c / 262144) (((128 + c / 4096 % 64) :: (128 + c / 64 % 64) :: (128 + c % 64) :: r).take (4 - 1)) = some c := by
      simp only [Nat.reduceSub, List.take_succ_cons, List.take_zero, cont]
      rw [if_neg (by omega), if_neg (by omega), if_neg (by omega)]
      congr 1
      omega
    rw [ec]
    simp [h, e]
theorem enc_lens (c : Int) : ((u8enc c).length = 1 ↔ c < 128) ∧ ((u8enc c).length = 2 ↔ 128 ≤ c ∧ c < 2048) ∧ ((u8enc c).length = 3 ↔ 2048 ≤ c ∧ c < 65536) ∧ ((u8enc c).length = 4 ↔ 65536 ≤ c) := by
  unfold u8enc
  split
  · simp; omega
  split
  · simp; omega
  split <;> (simp; omega)
theorem enc_one {b : List Int} {c : Int} {n : Nat} (hu : U8 b) (h : u8one b = (c, n)) (hn : n ≠ 0) : scalarB c = true ∧ u8enc c = b.take n ∧ n ≤ b.length := by
  cases b with
  | nil => simp [u8one] at h; omega
  | cons c0 r =>
    have h0 := hu c0 (List.mem_cons_self ..)
    rw [u8one] at h
    by_cases h1 : c0 < 128
    · rw [if_pos h1] at h
      simp only [Prod.mk.injEq] at h
      obtain ⟨rfl, rfl⟩ := h
      exact ⟨scalar_t (by omega), by simp [u8enc, h1], by simp⟩
    rw [if_neg h1] at h
    by_cases hl : (lead c0).1 = 0 ∨ r.length + 1 < (lead c0).1
    · rw [if_pos hl] at h
      simp at h
      omega
    rw [if_neg hl] at h
    cases hc : cont (lead c0).2 (r.take ((lead c0).1 - 1)) with
    | none => rw [hc] at h; simp at h; omega
    | some x =>
      rw [hc] at h
      simp only at h
      by_cases hx : scalarB x = true ∧ (u8enc x).length = (lead c0).1
      · rw [if_pos hx] at h
        simp only [Prod.mk.injEq] at h
        obtain ⟨rfl, rfl⟩ := h
        refine ⟨hx.1, ?_, by simp only [List.length_cons]; omega⟩
        have hln := enc_lens x
        by_cases k2 : 192 ≤ c0 ∧ c0 < 224
        · have l : lead c0 = (2, c0 - 192) := by unfold lead; rw [if_pos k2]
          rw [l] at hc hx hl ⊢
          simp only at hc hx hl ⊢
          match r, hl, hc with
          | b1 :: r, _, hc =>
            simp only [Nat.reduceSub, List.take_succ_cons, List.take_zero, cont] at hc
            split at hc
            · cases hc
            · simp only [Option.some.injEq] at hc
              have hr := hln.2.1.1 hx.2
              simp only [List.take_succ_cons, List.take_zero]
              unfold u8enc
              rw [if_neg (by omega), if_pos (by omega)]
              congr 1
              · omega
              · congr 1; omega
          | [], hl, _ => simp at hl
        by_cases k3 : 224 ≤ c0 ∧ c0 < 240
        · have l : lead c0 = (3, c0 - 224) := by unfold lead; rw [if_neg k2, if_pos k3]
          rw [l] at hc hx hl ⊢
          simp only at hc hx hl ⊢
          match r, hl, hc with
          | b1 :: b2 :: r, _, hc =>
            simp only [Nat.reduceSub, List.take_succ_cons, List.take_zero, cont] at hc
            split at hc
            · cases hc
            split at hc
            · cases hc
            · simp only [Option.some.injEq] at hc
              have hr := hln.2.2.1.1 hx.2
              simp only [List.take_succ_cons, List.take_zero]
              unfold u8enc
              rw [if_neg (by omega), if_neg (by omega), if_pos (by omega)]
              congr 1
              · omega
              · congr 1
                · omega
                · congr 1; omega
          | [b1], hl, _ => simp at hl
          | [], hl, _ => simp at hl
        by_cases k4 : 240 ≤ c0 ∧ c0 < 248
        · have l : lead c0 = (4, c0 - 240) := by unfold lead; rw [if_neg k2, if_neg k3, if_pos k4]
          rw [l] at hc hx hl ⊢
          simp only at hc hx hl ⊢
          match r, hl, hc with
          | b1 :: b2 :: b3 :: r, _, hc =>
            simp only [Nat.reduceSub, List.take_succ_cons, List.take_zero, cont] at hc
            split at hc
            · cases hc
            split at hc
            · cases hc
            split at hc
            · cases hc
            · simp only [Option.some.injEq] at hc
              have hr := hln.2.2.2.1 hx.2
              simp only [List.take_succ_cons, List.take_zero]
              unfold u8enc
              rw [if_neg (by omega), if_neg (by omega), if_neg (by omega)]
              congr 1
              · omega
              · congr 1
                · omega
                · congr 1
                  · omega
                  · congr 1; omega
          | [b1, b2], hl, _ => simp at hl
          | [b1], hl, _ => simp at hl
          | [], hl, _ => simp at hl
        · have l : (lead c0).1 = 0 := by unfold lead; rw [if_neg k2, if_neg k3, if_neg k4]
          rw [l] at hl
          simp at hl
      · rw [if_neg hx] at h
        simp at h
        omega
end Go.Proofs.YtildhebaikeknaaGreat

/-! U8Math -/
namespace Go.Proofs.YtildhebaikeknaaGreat

/-- the bytes, or where the first number stands that is no scalar -/
def putU : List Int → List Int ⊕ Nat
  | [] => .inl []
  | c :: s => if scalarB c then (match putU s with | .inl x => .inl (u8enc c ++ x) | .inr k => .inr (k + 1)) else .inr 0
/-- the scalars, or where none begins -/
def getF : Nat → List Int → List Int ⊕ Nat
  | _, [] => .inl []
  | 0, _ :: _ => .inr 0
  | n + 1, c :: r => if (u8one (c :: r)).2 = 0 then .inr 0 else
      (match getF n ((c :: r).drop (u8one (c :: r)).2) with | .inl s => .inl ((u8one (c :: r)).1 :: s) | .inr k => .inr ((u8one (c :: r)).2 + k))
def getU (b : List Int) : List Int ⊕ Nat := getF b.length b
theorem getF_more : ∀ (n m : Nat) (b : List Int), b.length ≤ n → b.length ≤ m → getF n b = getF m b
  | n, m, [], _, _ => by cases n <;> cases m <;> rfl
  | 0, _, c :: r, h, _ => by simp at h
  | _ + 1, 0, c :: r, _, h => by simp at h
  | n + 1, m + 1, c :: r, h1, h2 => by
    simp only [getF]
    by_cases h0 : (u8one (c :: r)).2 = 0
    · rw [if_pos h0, if_pos h0]
    · rw [if_neg h0, if_neg h0, getF_more n m _ (by simp at h1 ⊢; omega) (by simp at h2 ⊢; omega)]
/-- one step -/
theorem getU_step {b : List Int} (hb : b ≠ []) : getU b = if (u8one b).2 = 0 then .inr 0 else (match getU (b.drop (u8one b).2) with | .inl s => .inl ((u8one b).1 :: s) | .inr k => .inr ((u8one b).2 + k)) := by
  cases b with
  | nil => exact absurd rfl hb
  | cons c r =>
    unfold getU
    simp only [List.length_cons, getF]
    by_cases h0 : (u8one (c :: r)).2 = 0
    · rw [if_pos h0, if_pos h0]
    · rw [if_neg h0, if_neg h0, getF_more r.length _ _ (by simp; omega) (Nat.le_refl _)]
theorem getU_nil : getU [] = .inl [] := rfl
/-- what stands behind a text's bytes is read as if it stood alone -/
theorem get_app : ∀ {a x : List Int} (c : List Int), putU a = .inl x → getU (x ++ c) = match getU c with | .inl t => .inl (a ++ t) | .inr k => .inr (x.length + k)
  | [], x, c, h => by
    simp only [putU, Sum.inl.injEq] at h
    subst h
    simp only [List.nil_append]
    cases getU c <;> simp
  | a :: s, x, c, h => by
    simp only [putU] at h
    by_cases hs : scalarB a = true
    · rw [if_pos hs] at h
      cases hp : putU s with
      | inr k => rw [hp] at h; cases h
      | inl y =>
        rw [hp] at h
        simp only [Sum.inl.injEq] at h
        subst h
        have hl := u8enc_len a
        have h1 := one_enc hs (y ++ c)
        have hne : u8enc a ++ (y ++ c) ≠ [] := fun e => by
          have := congrArg List.length e
          rw [List.length_append, List.length_nil] at this
          omega
        rw [List.append_assoc, getU_step hne, h1]
        simp only
        rw [if_neg (show ¬ (u8enc a).length = 0 by omega), List.drop_left, get_app c hp]
        cases getU c with
        | inl t => simp
        | inr k => simp only [List.length_append, Sum.inr.injEq]; omega
    · rw [if_neg hs] at h
      cases h
theorem put_get {a x : List Int} (h : putU a = .inl x) : getU x = .inl a := by
  have := get_app [] h
  rw [List.append_nil, getU_nil] at this
  simpa using this
theorem put_u8 : ∀ {a x : List Int}, putU a = .inl x → U8 x
  | [], x, h => by
    simp only [putU, Sum.inl.injEq] at h
    subst h
    intro y hy
    cases hy
  | a :: s, x, h => by
    simp only [putU] at h
    by_cases hs : scalarB a = true
    · rw [if_pos hs] at h
      cases hp : putU s with
      | inr k => rw [hp] at h; cases h
      | inl y =>
        rw [hp] at h
        simp only [Sum.inl.injEq] at h
        subst h
        intro z hz
        rcases List.mem_append.1 hz with hz | hz
        · exact u8enc_u8 hs z hz
        · exact put_u8 hp z hz
    · rw [if_neg hs] at h
      cases h
theorem put_len : ∀ {a x : List Int}, putU a = .inl x → a.length ≤ x.length ∧ x.length ≤ 4 * a.length
  | [], x, h => by
    simp only [putU, Sum.inl.injEq] at h
    subst h
    simp
  | a :: s, x, h => by
    simp only [putU] at h
    by_cases hs : scalarB a = true
    · rw [if_pos hs] at h
      cases hp : putU s with
      | inr k => rw [hp] at h; cases h
      | inl y =>
        rw [hp] at h
        simp only [Sum.inl.injEq] at h
        subst h
        have h1 := put_len hp
        have h2 := u8enc_len a
        simp only [List.length_append, List.length_cons]
        omega
    · rw [if_neg hs] at h
      cases h
theorem put_bad : ∀ {a : List Int} {k : Nat}, putU a = .inr k → k < a.length ∧ scalarB (a.getD k 0) = false
  | [], k, h => by simp [putU] at h
  | a :: s, k, h => by
    simp only [putU] at h
    by_cases hs : scalarB a = true
    · rw [if_pos hs] at h
      cases hp : putU s with
      | inl y => rw [hp] at h; cases h
      | inr j =>
        rw [hp] at h
        simp only [Sum.inr.injEq] at h
        subst h
        have := put_bad hp
        simp only [List.length_cons]
        exact ⟨by omega, by simpa using this.2⟩
    · rw [if_neg hs] at h
      simp only [Sum.inr.injEq] at h
      subst h
      exact ⟨by simp, by simpa using hs⟩
theorem put_app : ∀ (a b : List Int), putU (a ++ b) = match putU a with | .inl x => (match putU b with | .inl y => .inl (x ++ y) | .inr k => .inr (a.length + k)) | .inr k => .inr k
  | [], b => by
    simp only [List.nil_append, putU]
    cases putU b <;> simp
  | a :: s, b => by
    simp only [List.cons_append, putU]
    by_cases hs : scalarB a = true
    · rw [if_pos hs, if_pos hs, put_app s b]
      cases putU s with
      | inr k => rfl
      | inl x =>
        cases putU b with
        | inl y => simp
        | inr k => simp only [List.length_cons, Sum.inr.injEq]; omega
    · rw [if_neg hs, if_neg hs]
theorem get_put : ∀ (n : Nat) {b s : List Int}, b.length ≤ n → U8 b → getU b = .inl s → putU s = .inl b
  | n, [], s, _, _, h => by
    rw [getU_nil] at h
    simp only [Sum.inl.injEq] at h
    subst h
    rfl
  | 0, c :: r, s, hn, _, _ => by simp at hn
  | n + 1, c :: r, s, hn, hu, h => by
    rw [getU_step (by simp)] at h
    by_cases h0 : (u8one (c :: r)).2 = 0
    · rw [if_pos h0] at h; cases h
    · rw [if_neg h0] at h
      obtain ⟨h1, h2, h3⟩ := enc_one hu (show u8one (c :: r) = ((u8one (c :: r)).1, (u8one (c :: r)).2) from rfl) h0
      cases hg : getU ((c :: r).drop (u8one (c :: r)).2) with
      | inr k => rw [hg] at h; cases h
      | inl t =>
        rw [hg] at h
        simp only [Sum.inl.injEq] at h
        subst h
        have ih := get_put n (by simp at hn ⊢; omega) (fun x hx => hu x (List.mem_of_mem_drop hx)) hg
        simp only [putU]
        rw [if_pos h1, ih, h2]
        simp only [List.take_append_drop]
theorem get_bad : ∀ (n : Nat) {b : List Int} {k : Nat}, b.length ≤ n → U8 b → getU b = .inr k → k < b.length
  | n, [], k, _, _, h => by rw [getU_nil] at h; cases h
  | 0, c :: r, k, hn, _, _ => by simp at hn
  | n + 1, c :: r, k, hn, hu, h => by
    rw [getU_step (by simp)] at h
    by_cases h0 : (u8one (c :: r)).2 = 0
    · rw [if_pos h0] at h
      simp only [Sum.inr.injEq] at h
      subst h
      simp
    · rw [if_neg h0] at h
      obtain ⟨-, -, h3⟩ := enc_one hu (show u8one (c :: r) = ((u8one (c :: r)).1, (u8one (c :: r)).2) from rfl) h0
      cases hg : getU ((c :: r).drop (u8one (c :: r)).2) with
      | inl t => rw [hg] at h; cases h
      | inr j =>
        rw [hg] at h
        simp only [Sum.inr.injEq] at h
        subst h
        have ih := get_bad n (by simp at hn ⊢; omega) (fun x hx => hu x (List.mem_of_mem_drop hx)) hg
        rw [List.length_drop] at ih
        omega
theorem get_len {b s : List Int} (hu : U8 b) (h : getU b = .inl s) : s.length ≤ b.length ∧ b.length ≤ 4 * s.length := put_len (get_put _ (Nat.le_refl _) hu h)
theorem put_scalars : ∀ {a x : List Int}, putU a = .inl x → ∀ c ∈ a, scalarB c = true
  | [], _, _, c, hc => by cases hc
  | a :: s, x, h, c, hc => by
    simp only [putU] at h
    by_cases hs : scalarB a = true
    · rw [if_pos hs] at h
      cases hp : putU s with
      | inr k => rw [hp] at h; cases h
      | inl y =>
        rcases List.mem_cons.1 hc with rfl | hc
        · exact hs
        · exact put_scalars hp c hc
    · rw [if_neg hs] at h
      cases h
theorem get_scalars {b s : List Int} (hu : U8 b) (h : getU b = .inl s) : ∀ c ∈ s, scalarB c = true := put_scalars (get_put _ (Nat.le_refl _) hu h)
/-- the three results -/
def outL : List Int ⊕ Nat → List Int
  | .inl x => x
  | .inr _ => []
def outAt : List Int ⊕ Nat → Nat
  | .inl _ => 0
  | .inr k => k
def outE (err : Int) : List Int ⊕ Nat → Int
  | .inl _ => 0
  | .inr _ => err
/-- what was got so far, and what is still to come -/
def goOn (t : List Int) (at_ : Nat) : List Int ⊕ Nat → List Int ⊕ Nat
  | .inl u => .inl (t ++ u)
  | .inr k => .inr (at_ + k)
end Go.Proofs.YtildhebaikeknaaGreat

/-! Fix -/
namespace Go.Proofs.YtildhebaikeknaaGreat

/-- the three results of a put, of a get -/
def res3 (err : Int) (r : List Int ⊕ Nat) : List Int × Int × Int := (outL r, (outAt r : Int), outE err r)
/-- the bytes, or where the first number stands that is none -/
def putG (ok : Int → Bool) (enc : Int → List Int) : List Int → List Int ⊕ Nat
  | [] => .inl []
  | c :: s => if ok c then (match putG ok enc s with | .inl x => .inl (enc c ++ x) | .inr k => .inr (k + 1)) else .inr 0
/-- n characters of k bytes each, or where the first one begins that is none -/
def getN (k : Nat) (dec : List Int → Option Int) : Nat → List Int → List Int ⊕ Nat
  | 0, _ => .inl []
  | n + 1, b => match dec (b.take k) with
    | none => .inr 0
    | some c => (match getN k dec n (b.drop k) with | .inl s => .inl (c :: s) | .inr j => .inr (k + j))
section
variable {ok : Int → Bool} {enc : Int → List Int} {k : Nat} {dec : List Int → Option Int}
theorem putG_app : ∀ (a b : List Int), putG ok enc (a ++ b) = match putG ok enc a with | .inl x => (match putG ok enc b with | .inl y => .inl (x ++ y) | .inr k => .inr (a.length + k)) | .inr k => .inr k
  | [], b => by
    simp only [List.nil_append, putG]
    cases putG ok enc b <;> simp
  | a :: s, b => by
    simp only [List.cons_append, putG]
    by_cases hs : ok a = true
    · rw [if_pos hs, if_pos hs, putG_app s b]
      cases putG ok enc s with
      | inr k => rfl
      | inl x =>
        cases putG ok enc b with
        | inl y => simp
        | inr k => simp only [List.length_cons, Sum.inr.injEq]; omega
    · rw [if_neg hs, if_neg hs]
theorem putG_one {c : Int} (h : ok c = true) : putG ok enc [c] = .inl (enc c) := by simp [putG, h]
theorem putG_none {c : Int} (h : ok c = false) : putG ok enc [c] = .inr 0 := by simp [putG, h]
theorem putG_bad : ∀ {a : List Int} {j : Nat}, putG ok enc a = .inr j → j < a.length ∧ ok (a.getD j 0) = false
  | [], j, h => by simp [putG] at h
  | a :: s, j, h => by
    simp only [putG] at h
    by_cases hs : ok a = true
    · rw [if_pos hs] at h
      cases hp : putG ok enc s with
      | inl y => rw [hp] at h; cases h
      | inr i =>
        rw [hp] at h
        simp only [Sum.inr.injEq] at h
        subst h
        have := putG_bad hp
        simp only [List.length_cons]
        exact ⟨by omega, by simpa using this.2⟩
    · rw [if_neg hs] at h
      simp only [Sum.inr.injEq] at h
      subst h
      exact ⟨by simp, by simpa using hs⟩
theorem putG_part {s x : List Int} {j : Nat} (hj : j < s.length) (h : putG ok enc (s.take j) = .inl x) :
    (ok (s.getD j 0) = false → putG ok enc s = .inr j) ∧ (ok (s.getD j 0) = true → putG ok enc (s.take (j + 1)) = .inl (x ++ enc (s.getD j 0))) := by
  have e : s.getD j 0 = s[j] := by rw [List.getD_eq_getElem?_getD, List.getElem?_eq_getElem hj]; rfl
  rw [e]
  constructor
  · intro hs
    have h2 : s = s.take j ++ (s[j] :: s.drop (j + 1)) := by rw [List.getElem_cons_drop, List.take_append_drop]
    have hp := putG_app (ok := ok) (enc := enc) (s.take j) (s[j] :: s.drop (j + 1))
    rw [← h2, h] at hp
    rw [hp]
    simp only [putG, hs, Bool.false_eq_true, if_false, List.length_take]
    congr 1
    omega
  · intro hs
    rw [List.take_succ_eq_append_getElem hj, putG_app, h]
    simp [putG, hs]
theorem putG_all : ∀ {a x : List Int}, putG ok enc a = .inl x → (∀ c ∈ a, ok c = true) ∧ ((∀ c, ok c = true → (enc c).length = k) → x.length = k * a.length) ∧ ((∀ c, ok c = true → U8 (enc c)) → U8 x)
  | [], x, h => by
    simp only [putG, Sum.inl.injEq] at h
    subst h
    exact ⟨fun c hc => (by cases hc), fun _ => (by simp), fun _ y hy => (by cases hy)⟩
  | a :: s, x, h => by
    simp only [putG] at h
    by_cases hs : ok a = true
    · rw [if_pos hs] at h
      cases hp : putG ok enc s with
      | inr k => rw [hp] at h; cases h
      | inl y =>
        rw [hp] at h
        simp only [Sum.inl.injEq] at h
        subst h
        obtain ⟨h1, h2, h3⟩ := putG_all hp
        refine ⟨fun c hc => ?_, fun hk => ?_, fun hu z hz => ?_⟩
        · rcases List.mem_cons.1 hc with rfl | hc
          · exact hs
          · exact h1 c hc
        · rw [List.length_append, hk a hs, h2 hk, List.length_cons, Nat.mul_succ]
          omega
        · rcases List.mem_append.1 hz with hz | hz
          · exact hu a hs z hz
          · exact h3 hu z hz
    · rw [if_neg hs] at h
      cases h
theorem putG_of_all : ∀ {a : List Int}, (∀ c ∈ a, ok c = true) → ∃ x, putG ok enc a = .inl x
  | [], _ => ⟨[], rfl⟩
  | a :: s, h => by
    obtain ⟨x, hx⟩ := putG_of_all (fun c hc => h c (List.mem_cons_of_mem _ hc))
    exact ⟨enc a ++ x, by simp only [putG]; rw [if_pos (h a (List.mem_cons_self ..)), hx]⟩
theorem putG_get (hd : ∀ c, ok c = true → (enc c).length = k ∧ dec (enc c) = some c) : ∀ {a x : List Int}, putG ok enc a = .inl x → getN k dec a.length x = .inl a
  | [], x, _ => rfl
  | a :: s, x, h => by
    simp only [putG] at h
    by_cases hs : ok a = true
    · rw [if_pos hs] at h
      cases hp : putG ok enc s with
      | inr k => rw [hp] at h; cases h
      | inl y =>
        rw [hp] at h
        simp only [Sum.inl.injEq] at h
        subst h
        obtain ⟨h1, h2⟩ := hd a hs
        simp only [List.length_cons, getN]
        rw [show (enc a ++ y).take k = enc a by rw [← h1, List.take_left], show (enc a ++ y).drop k = y by rw [← h1, List.drop_left], h2]
        simp only
        rw [putG_get hd hp]
    · rw [if_neg hs] at h
      cases h
theorem getN_put (hd : ∀ ch c, U8 ch → ch.length = k → dec ch = some c → ok c = true ∧ enc c = ch) : ∀ {n : Nat} {b s : List Int}, U8 b → b.length = k * n → getN k dec n b = .inl s → putG ok enc s = .inl b ∧ s.length = n
  | 0, b, s, _, hb, h => by
    simp only [getN, Sum.inl.injEq] at h
    subst h
    have : b = [] := List.eq_nil_of_length_eq_zero (by simpa using hb)
    subst this
    exact ⟨rfl, rfl⟩
  | n + 1, b, s, hu, hb, h => by
    simp only [getN] at h
    rw [Nat.mul_succ] at hb
    cases hc : dec (b.take k) with
    | none => rw [hc] at h; cases h
    | some c =>
      rw [hc] at h
      simp only at h
      cases hg : getN k dec n (b.drop k) with
      | inr j => rw [hg] at h; cases h
      | inl t =>
        rw [hg] at h
        simp only [Sum.inl.injEq] at h
        subst h
        obtain ⟨h1, h2⟩ := hd _ c (fun x hx => hu x (List.mem_of_mem_take hx)) (by rw [List.length_take]; omega) hc
        obtain ⟨h3, h4⟩ := getN_put hd (fun x hx => hu x (List.mem_of_mem_drop hx)) (by rw [List.length_drop]; omega) hg
        simp only [putG]
        rw [if_pos h1, h3, h2]
        simp only [List.take_append_drop, List.length_cons, h4, and_self]
/-- one character more -/
theorem getN_part {n j : Nat} {b t : List Int} (hj : j < n) (h : getN k dec n b = goOn t (k * j) (getN k dec (n - j) (b.drop (k * j)))) :
    (dec ((b.drop (k * j)).take k) = none → getN k dec n b = .inr (k * j)) ∧ (∀ c, dec ((b.drop (k * j)).take k) = some c → getN k dec n b = goOn (t ++ [c]) (k * (j + 1)) (getN k dec (n - (j + 1)) (b.drop (k * (j + 1))))) := by
  rw [show n - j = (n - (j + 1)) + 1 by omega] at h
  simp only [getN] at h
  constructor
  · intro hd
    rw [hd] at h
    rw [h]
    simp [goOn]
  · intro c hd
    rw [hd] at h
    simp only [List.drop_drop] at h
    rw [← Nat.mul_succ] at h
    rw [h]
    cases getN k dec (n - (j + 1)) (b.drop (k * (j + 1))) with
    | inl u => simp [goOn]
    | inr x => simp only [goOn, Nat.mul_succ, Sum.inr.injEq]; omega
theorem getN_end {n : Nat} {b t : List Int} (h : getN k dec n b = goOn t (k * n) (getN k dec (n - n) (b.drop (k * n)))) : getN k dec n b = .inl t := by
  rw [h, Nat.sub_self]
  simp [getN, goOn]
end
end Go.Proofs.YtildhebaikeknaaGreat

/-! WideSpec -/
namespace Go.Proofs.YtildhebaikeknaaGreat

def wok (f : Bool) (c : Int) : Bool := scalarB c && (f || decide (c ≤ 65535))
def wenc (f : Bool) (c : Int) : List Int := if f then [0, c / 65536, c / 256 % 256, c % 256] else [c / 256, c % 256]
def wval (ch : List Int) : Int := ch.foldl (fun c x => 256 * c + x) 0
def wdec (ch : List Int) : Option Int := if scalarB (wval ch) then some (wval ch) else none
def wk (f : Bool) : Nat := if f then 4 else 2
theorem scalar_parts {c : Int} (h : scalarB c = true) : 0 ≤ c ∧ c ≤ 1114111 := by
  unfold scalarB at h
  have h := of_decide_eq_true h
  exact ⟨h.1, h.2.1⟩
theorem wok_parts {f : Bool} {c : Int} (h : wok f c = true) : scalarB c = true ∧ 0 ≤ c ∧ c ≤ 1114111 ∧ (f = false → c ≤ 65535) := by
  unfold wok at h
  rw [Bool.and_eq_true] at h
  obtain ⟨h1, h2⟩ := scalar_parts h.1
  refine ⟨h.1, h1, h2, fun hf => ?_⟩
  rw [hf] at h
  simpa using h.2
theorem wenc_get {f : Bool} {c : Int} (h : wok f c = true) : (wenc f c).length = wk f ∧ wdec (wenc f c) = some c := by
  obtain ⟨hs, h0, h1, h2⟩ := wok_parts h
  cases f with
  | true =>
    have e : wval [0, c / 65536, c / 256 % 256, c % 256] = c := by simp only [wval, List.foldl_cons, List.foldl_nil]; omega
    simp [wenc, wk, wdec, e, hs]
  | false =>
    have h2 := h2 rfl
    have e : wval [c / 256, c % 256] = c := by simp only [wval, List.foldl_cons, List.foldl_nil]; omega
    simp [wenc, wk, wdec, e, hs]
theorem wenc_u8 {f : Bool} {c : Int} (h : wok f c = true) : U8 (wenc f c) := by
  obtain ⟨hs, h0, h1, h2⟩ := wok_parts h
  cases f with
  | true => intro x hx; simp [wenc] at hx; omega
  | false =>
    have h2 := h2 rfl
    intro x hx; simp [wenc] at hx; omega
theorem wdec_put {f : Bool} {ch : List Int} {c : Int} (hu : U8 ch) (hl : ch.length = wk f) (h : wdec ch = some c) : wok f c = true ∧ wenc f c = ch := by
  unfold wdec at h
  by_cases hs : scalarB (wval ch) = true
  · rw [if_pos hs] at h
    simp only [Option.some.injEq] at h
    subst h
    obtain ⟨h0, h1⟩ := scalar_parts hs
    cases f with
    | true =>
      match ch, hl with
      | [a, b, d, e], _ =>
        have ua := hu a (by simp)
        have ub := hu b (by simp)
        have ud := hu d (by simp)
        have ue := hu e (by simp)
        have hv : wval [a, b, d, e] = 256 * (256 * (256 * (256 * 0 + a) + b) + d) + e := rfl
        generalize wval [a, b, d, e] = x at hs h0 h1 hv
        refine ⟨by simp [wok, hs], ?_⟩
        simp only [wenc, if_true]
        congr 1
        · omega
        · congr 1
          · omega
          · congr 1
            · omega
            · congr 1; omega
    | false =>
      match ch, hl with
      | [a, b], _ =>
        have ua := hu a (by simp)
        have ub := hu b (by simp)
        have hv : wval [a, b] = 256 * (256 * 0 + a) + b := rfl
        generalize wval [a, b] = x at hs h0 h1 hv
        refine ⟨?_, ?_⟩
        · unfold wok
          rw [hs, Bool.true_and, Bool.false_or]
          exact decide_eq_true (by omega)
        · simp only [wenc, Bool.false_eq_true, if_false]
          congr 1
          · omega
          · congr 1; omega
  · rw [if_neg hs] at h
    cases h
def wputB (f : Bool) (s : List Int) : List Int ⊕ Nat := putG (wok f) (wenc f) s
def wgetB (f : Bool) (b : List Int) : List Int × Int × Int := if b.length % wk f = 0 then res3 13 (getN (wk f) wdec (b.length / wk f) b) else ([], ((b.length / wk f * wk f : Nat) : Int), 11)
def wput (size : Int) (s : List Int) : List Int × Int × Int := if size = 2 then res3 14 (wputB false s) else if size = 4 then res3 14 (wputB true s) else ([], 0, 1)
def wget (size : Int) (b : List Int) : List Int × Int × Int := if size = 2 then wgetB false b else if size = 4 then wgetB true b else ([], 0, 1)
theorem wput_get {f : Bool} {a x : List Int} (h : wputB f a = .inl x) : wgetB f x = (a, 0, 0) ∧ x.length = wk f * a.length ∧ U8 x ∧ ∀ c ∈ a, wok f c = true := by
  obtain ⟨h1, h2, h3⟩ := putG_all (k := wk f) h
  have hl := h2 (fun c hc => (wenc_get hc).1)
  have hk : 0 < wk f := by cases f <;> simp [wk]
  refine ⟨?_, hl, h3 (fun c hc => wenc_u8 hc), h1⟩
  unfold wgetB
  rw [hl, Nat.mul_mod_right, if_pos rfl, Nat.mul_div_cancel_left _ hk, putG_get (fun c hc => wenc_get hc) h]
  rfl
theorem wget_put {f : Bool} {b s : List Int} {at_ : Int} (hu : U8 b) (h : wgetB f b = (s, at_, 0)) : wputB f s = .inl b ∧ s.length * wk f = b.length := by
  unfold wgetB at h
  have hk : 0 < wk f := by cases f <;> simp [wk]
  by_cases hm : b.length % wk f = 0
  · rw [if_pos hm] at h
    have hb : b.length = wk f * (b.length / wk f) := by have := Nat.mod_add_div b.length (wk f); omega
    cases hg : getN (wk f) wdec (b.length / wk f) b with
    | inr k => rw [hg] at h; simp [res3, outE] at h
    | inl t =>
      rw [hg] at h
      simp only [res3, outL, outE, Prod.mk.injEq] at h
      obtain ⟨rfl, -, -⟩ := h
      obtain ⟨h1, h2⟩ := getN_put (fun ch c h1 h2 h3 => wdec_put h1 h2 h3) hu hb hg
      exact ⟨h1, by rw [h2, Nat.mul_comm]; exact hb.symm⟩
  · rw [if_neg hm] at h
    simp at h
end Go.Proofs.YtildhebaikeknaaGreat

/-! U8Ok -/
namespace Go.Proofs.YtildhebaikeknaaGreat
open Go.RowKit

def UPutOk : Prop := ∀ (v : Value) (s : List Int) (w : World), Sl .i64 w v s → s.all inI = true → s.length ≤ 100000 → Calls Tryz.prog 31 #[v] w fun e w' => ∃ x, e = .returned (.tuple #[x, .int .i64 (outAt (putU s)), .int .i64 (outE 14 (putU s))]) ∧ Sl .u8 w' x (outL (putU s)) ∧ Below w.heap.size w w'
theorem w13_put : putU [8364] = .inl [226, 130, 172] := by decide +kernel
theorem w13_get : getU [226, 130, 172] = .inl [8364] := by decide +kernel
theorem w13_bad : getU [65, 192, 128] = .inr 1 := by decide +kernel

end Go.Proofs.YtildhebaikeknaaGreat

/-! WideOk -/
namespace Go.Proofs.YtildhebaikeknaaGreat
open Go.RowKit

def WPutOk : Prop := ∀ (v : Value) (s : List Int) (size : Int) (w : World), Sl .i64 w v s → s.all inI = true → s.length ≤ 100000 → Calls Tryz.prog 34 #[v, .int .i64 size] w fun e w' => ∃ x, e = .returned (.tuple #[x, .int .i64 (wput size s).2.1, .int .i64 (wput size s).2.2]) ∧ Own .u8 5 w.heap.size w' x (wput size s).1 ∧ Below w.heap.size w w'
theorem w14_put : wput 2 [321] = ([1, 65], 0, 0) := by decide +kernel
theorem w14_get : wget 2 [0, 65, 216, 0] = ([], 2, 13) := by decide +kernel

end Go.Proofs.YtildhebaikeknaaGreat

/-! Utf13a -/
namespace Go.Proofs.YtildhebaikeknaaGreat
open Go.RowKit

theorem and_63i (c : Int) (h : 0 ≤ c) (hs : c < 9223372036854775808) : bits .and .i64 c 63 = c % 64 := by
  obtain ⟨n, rfl⟩ := Int.eq_ofNat_of_zero_le h
  show IntKind.i64.wrap ((BitVec.ofInt 64 (n : Int) &&& BitVec.ofInt 64 (63 : Int)).toNat : Int) = _
  rw [BitVec.toNat_and, i64_nat n (by omega), show (BitVec.ofInt 64 (63 : Int)).toNat = 2 ^ 6 - 1 by decide, Nat.and_two_pow_sub_one_eq_mod, IntKind.wrap_i64]
  omega
theorem or_128 : ∀ x : Int, 0 ≤ x → x ≤ 255 → x < 64 → bits .or .u8 128 x = 128 + x := all_u8 (by decide +kernel)
theorem or_192 : ∀ x : Int, 0 ≤ x → x ≤ 255 → x < 32 → bits .or .u8 192 x = 192 + x := all_u8 (by decide +kernel)
theorem or_224 : ∀ x : Int, 0 ≤ x → x ≤ 255 → x < 16 → bits .or .u8 224 x = 224 + x := all_u8 (by decide +kernel)
theorem or_240 : ∀ x : Int, 0 ≤ x → x ≤ 255 → x < 8 → bits .or .u8 240 x = 240 + x := all_u8 (by decide +kernel)
theorem not_63 : ∀ x : Int, 0 ≤ x → x ≤ 255 → bits .andNot .u8 x 63 = x / 64 * 64 := all_u8 (by decide +kernel)
theorem and_63 : ∀ x : Int, 0 ≤ x → x ≤ 255 → bits .and .u8 x 63 = x % 64 := all_u8 (by decide +kernel)

theorem utfLength (c : Int) (w : World) : Calls Tryz.prog 60 #[.int .i64 c] w fun e w' => e = .returned (.int .i64 ((u8enc c).length : Nat)) ∧ w = w' := by
  by_cases h1 : c < 128
  · have HR := hid (show (u8enc c).length = 1 by simp [u8enc, h1])
    go_enter Tryz.func60, Tryz.ntmps60
    go_wp2
    go_ret
    exact ⟨by rw [HR.out]; rfl, rfl⟩
  by_cases h2 : c < 2048
  · have HR := hid (show (u8enc c).length = 2 by simp [u8enc, h1, h2])
    go_enter Tryz.func60, Tryz.ntmps60
    go_wp2
    go_ret
    exact ⟨by rw [HR.out]; rfl, rfl⟩
  by_cases h3 : c < 65536
  · have HR := hid (show (u8enc c).length = 3 by simp [u8enc, h1, h2, h3])
    go_enter Tryz.func60, Tryz.ntmps60
    go_wp2
    go_ret
    exact ⟨by rw [HR.out]; rfl, rfl⟩
  · have HR := hid (show (u8enc c).length = 4 by simp [u8enc, h1, h2, h3])
    go_enter Tryz.func60, Tryz.ntmps60
    go_wp2
    go_ret
    exact ⟨by rw [HR.out]; rfl, rfl⟩

theorem lead_2 {x : Int} (h0 : 192 ≤ x) (h1 : x < 224) : lead x = (2, x - 192) := by unfold lead; rw [if_pos ⟨h0, h1⟩]
theorem lead_3 {x : Int} (h0 : 224 ≤ x) (h1 : x < 240) : lead x = (3, x - 224) := by unfold lead; rw [if_neg (by omega), if_pos ⟨h0, h1⟩]
theorem lead_4 {x : Int} (h0 : 240 ≤ x) (h1 : x < 248) : lead x = (4, x - 240) := by unfold lead; rw [if_neg (by omega), if_neg (by omega), if_pos ⟨h0, h1⟩]
theorem lead_0 {x : Int} (h : x < 192 ∨ 248 ≤ x) : lead x = (0, x) := by unfold lead; rw [if_neg (by omega), if_neg (by omega), if_neg (by omega)]
/-- what the first byte says: how many bytes, and its bits -/
def beginS (x : Int) : Nat × Int := if x < 128 then (1, x) else if (lead x).1 = 0 then (0, 0) else lead x
theorem utfGroup0 (c : Int) (w : World) (h0 : 0 ≤ c) (h1 : c ≤ 1114111) : Calls Tryz.prog 61 #[.int .i64 c, .int .i64 0] w fun e w' => e = .returned (.int .u8 (128 + c % 64)) ∧ w = w' := by
  have e1 := and_63i c h0 (by omega)
  have e2 := or_128 (c % 64) (by omega) (by omega) (by omega)
  go_enter Tryz.func61, Tryz.ntmps61
  go_wp2
  go_ret
  exact ⟨rfl, rfl⟩
theorem utfGroup1 (c : Int) (w : World) (h0 : 0 ≤ c) (h1 : c ≤ 1114111) : Calls Tryz.prog 61 #[.int .i64 c, .int .i64 1] w fun e w' => e = .returned (.int .u8 (128 + c / 64 % 64)) ∧ w = w' := by
  have e1 := and_63i (c / 64) (by omega) (by omega)
  have e2 := or_128 (c / 64 % 64) (by omega) (by omega) (by omega)
  go_enter Tryz.func61, Tryz.ntmps61
  go_wp2
  go_ret
  exact ⟨rfl, rfl⟩
theorem utfGroup2 (c : Int) (w : World) (h0 : 0 ≤ c) (h1 : c ≤ 1114111) : Calls Tryz.prog 61 #[.int .i64 c, .int .i64 2] w fun e w' => e = .returned (.int .u8 (128 + c / 4096 % 64)) ∧ w = w' := by
  have e1 := and_63i (c / 4096) (by omega) (by omega)
  have e2 := or_128 (c / 4096 % 64) (by omega) (by omega) (by omega)
  go_enter Tryz.func61, Tryz.ntmps61
  go_wp2
  go_ret
  exact ⟨rfl, rfl⟩
end Go.Proofs.YtildhebaikeknaaGreat

/-! Ref14 -/
namespace Go.Proofs.YtildhebaikeknaaGreat
open Go.RowKit
theorem wval_snoc (l : List Int) (x : Int) : wval (l ++ [x]) = 256 * wval l + x := by simp [wval, List.foldl_append]

set_option maxRecDepth 10000 in
set_option maxHeartbeats 4000000 in
theorem refPut14_false (v : Value) (s : List Int) (w : World) (hs : Sl .i64 w v s) (hl : s.length ≤ 100000) : Calls Tryz.prog 37 #[v, .int .i64 2] w fun e w' =>
    ∃ x, e = .returned (.tuple #[x, .int .i64 (outAt (wputB false s)), .int .i64 (outE 14 (wputB false s))]) ∧ Sl .u8 w' x (outL (wputB false s)) ∧ Below w.heap.size w w' := by
  obtain ⟨a1, cap1, rfl, q1, -, h1⟩ := hs
  obtain ⟨n, hn⟩ : ∃ n, n = s.length := ⟨_, rfl⟩
  have HN := hid hn
  have H1 := hid h1
  rw [← hn] at q1 hl ⊢
  clear h1 hn
  go_enter Tryz.func37, Tryz.ntmps37
  go_wp2
  go_loopw [7, 8] (fun bv iv wr => ∃ (j : Nat) (x : List Int), j ≤ n ∧ iv = .int .i64 j ∧ Hid (Own .u8 5 w.heap.size wr bv x) ∧ Hid (Below w.heap.size w wr) ∧ Hid (wputB false (s.take j) = .inl x) ∧ x.length = 2 * j) (fun _ iv _ => n - (intOf iv).toNat)
  case atStart => exact ⟨0, [], by omega, rfl, Own.nil _ _ _ _, Below.refl _ _, by show wputB false (s.take 0) = _; rfl, by simp⟩
  case round =>
    obtain ⟨j, x, hj, rfl, hown, hbel, hput, hxl⟩ := hrel
    by_cases hlt : j < n
    · rcases H1.out with hcc | ⟨b1, o1, rfl, hb1, hc⟩
      · omega
      have hb1' := hb1 (by have := HN.out; omega)
      have d1 := (hbel.out.cell (p := ⟨b1, o1 + j, none⟩) hb1').trans (hc j (by have := HN.out; omega))
      obtain ⟨p1, p2⟩ := putG_part (by have := HN.out; omega) hput.out
      clear hc hb1 hb1'
      generalize s.getD j 0 = c at d1 p1 p2
      cases hsc : scalarB c with
      | false =>
        have HSC := hid hsc
        have HP := hid (show wputB false s = .inr j from p1 (by unfold wok; rw [hsc]; rfl))
        clear p1 p2 hsc
        go_wp2_with (go_at_call 51; refine (refScalar6 c _).mono ?_; rw [HSC.out]; rintro e w1 ⟨rfl, rfl⟩)
        go_ret3
        exact ⟨_, by rw [HP.out]; rfl, by rw [HP.out]; exact (Own.nil .u8 5 0 _).sl, hbel.out⟩
      | true =>
        obtain ⟨k0, k1⟩ := scalar_parts hsc
        have HSC := hid hsc
        by_cases hbig : c ≤ 65535
        · have HP := hid (show wputB false (s.take (j + 1)) = .inl (x ++ [c / 256, c % 256]) from p2 (by unfold wok; rw [hsc, Bool.true_and, Bool.false_or]; exact decide_eq_true hbig))
          have HX := hid (show (x ++ [c / 256, c % 256]).length = x.length + 2 by simp)
          clear p1 p2 hsc
          go_wp2_with (first
            | (go_at_call 51; refine (refScalar6 c _).mono ?_; rw [HSC.out]; rintro e w1 ⟨rfl, rfl⟩)
            | (at_builtin; go_loud (refine wpList_app _ rfl _ _ 42 rfl .u8 w.heap.size 5 1 Tryz.underlying42 Tryz.infoU8 _ x [c / 256, c % 256] rfl (hown.out.alloc _) _ rfl (lit_sl (by first | simp | rfl) rfl rfl (by simp)) (by unfold maxLen; simp; omega) (by simp; omega) (by have := hbel.out.size; simp; omega) ?_); intro v1 w1 ho1 hg1 hb1 hn1; have HO1 := hid ho1; have HB1 := hid ((hbel.out.alloc hbel.out.size _).trans hb1); clear ho1 hg1 hb1 hn1))
          go_roundw
          case rel => exact ⟨j + 1, x ++ [c / 256, c % 256], by omega, by go_num, HO1.out, HB1.out, HP.out, by rw [HX.out]; omega⟩
          case measure => simp [intOf]; omega
        · have HP := hid (show wputB false s = .inr j from p1 (by unfold wok; rw [hsc, Bool.true_and, Bool.false_or]; exact decide_eq_false hbig))
          clear p1 p2 hsc
          go_wp2_with (go_at_call 51; refine (refScalar6 c _).mono ?_; rw [HSC.out]; rintro e w1 ⟨rfl, rfl⟩)
          go_ret3
          exact ⟨_, by rw [HP.out]; rfl, by rw [HP.out]; exact (Own.nil .u8 5 0 _).sl, hbel.out⟩
    · obtain rfl : j = n := by omega
      have HP := hid (show wputB false s = .inl x by rw [← hput.out, HN.out, List.take_length])
      go_wp2
      go_ret3
      exact ⟨_, by rw [HP.out]; rfl, by rw [HP.out]; exact hown.out.sl, hbel.out⟩

set_option maxRecDepth 10000 in
set_option maxHeartbeats 4000000 in
theorem refPut14_true (v : Value) (s : List Int) (w : World) (hs : Sl .i64 w v s) (hl : s.length ≤ 100000) : Calls Tryz.prog 37 #[v, .int .i64 4] w fun e w' =>
    ∃ x, e = .returned (.tuple #[x, .int .i64 (outAt (wputB true s)), .int .i64 (outE 14 (wputB true s))]) ∧ Sl .u8 w' x (outL (wputB true s)) ∧ Below w.heap.size w w' := by
  obtain ⟨a1, cap1, rfl, q1, -, h1⟩ := hs
  obtain ⟨n, hn⟩ : ∃ n, n = s.length := ⟨_, rfl⟩
  have HN := hid hn
  have H1 := hid h1
  rw [← hn] at q1 hl ⊢
  clear h1 hn
  go_enter Tryz.func37, Tryz.ntmps37
  go_wp2
  go_loopw [7, 8] (fun bv iv wr => ∃ (j : Nat) (x : List Int), j ≤ n ∧ iv = .int .i64 j ∧ Hid (Own .u8 5 w.heap.size wr bv x) ∧ Hid (Below w.heap.size w wr) ∧ Hid (wputB true (s.take j) = .inl x) ∧ x.length = 4 * j) (fun _ iv _ => n - (intOf iv).toNat)
  case atStart => exact ⟨0, [], by omega, rfl, Own.nil _ _ _ _, Below.refl _ _, by show wputB true (s.take 0) = _; rfl, by simp⟩
  case round =>
    obtain ⟨j, x, hj, rfl, hown, hbel, hput, hxl⟩ := hrel
    by_cases hlt : j < n
    · rcases H1.out with hcc | ⟨b1, o1, rfl, hb1, hc⟩
      · omega
      have hb1' := hb1 (by have := HN.out; omega)
      have d1 := (hbel.out.cell (p := ⟨b1, o1 + j, none⟩) hb1').trans (hc j (by have := HN.out; omega))
      obtain ⟨p1, p2⟩ := putG_part (by have := HN.out; omega) hput.out
      clear hc hb1 hb1'
      generalize s.getD j 0 = c at d1 p1 p2
      cases hsc : scalarB c with
      | false =>
        have HSC := hid hsc
        have HP := hid (show wputB true s = .inr j from p1 (by unfold wok; rw [hsc]; rfl))
        clear p1 p2 hsc
        go_wp2_with (go_at_call 51; refine (refScalar6 c _).mono ?_; rw [HSC.out]; rintro e w1 ⟨rfl, rfl⟩)
        go_ret3
        exact ⟨_, by rw [HP.out]; rfl, by rw [HP.out]; exact (Own.nil .u8 5 0 _).sl, hbel.out⟩
      | true =>
        obtain ⟨k0, k1⟩ := scalar_parts hsc
        have HSC := hid hsc
        have HP := hid (show wputB true (s.take (j + 1)) = .inl (x ++ [0, c / 65536] ++ [c / 256 % 256, c % 256]) by
          rw [List.append_assoc]
          exact p2 (by unfold wok; rw [hsc]; rfl))
        have HX := hid (show (x ++ [0, c / 65536] ++ [c / 256 % 256, c % 256]).length = x.length + 4 by simp)
        clear p1 p2 hsc
        go_wp2_with (first
            | (go_at_call 51; refine (refScalar6 c _).mono ?_; rw [HSC.out]; rintro e w1 ⟨rfl, rfl⟩)
            | (have _u := HB1; clear _u; at_builtin; go_loud (refine wpList_app _ rfl _ _ 42 rfl .u8 w.heap.size 5 1 Tryz.underlying42 Tryz.infoU8 _ (x ++ [0, c / 65536]) [c / 256 % 256, c % 256] rfl (HO1.out.alloc _) _ rfl (lit_sl (by first | simp | rfl) rfl rfl (by simp)) (by unfold maxLen; simp; omega) (by simp; omega) (by have := HB1.out.size; simp; omega) ?_); intro v2 w2 ho2 hg2 hb2 hn2; have HO2 := hid ho2; have HB2 := hid ((HB1.out.alloc HB1.out.size _).trans hb2); clear ho2 hg2 hb2 hn2)
            | (at_builtin; go_loud (refine wpList_app _ rfl _ _ 42 rfl .u8 w.heap.size 5 1 Tryz.underlying42 Tryz.infoU8 _ x [0, c / 65536] rfl (hown.out.alloc _) _ rfl (lit_sl (by first | simp | rfl) rfl rfl (by simp)) (by unfold maxLen; simp; omega) (by simp; omega) (by have := hbel.out.size; simp; omega) ?_); intro v1 w1 ho1 hg1 hb1 hn1; have HO1 := hid ho1; have HB1 := hid ((hbel.out.alloc hbel.out.size _).trans hb1); clear ho1 hg1 hb1 hn1))
        go_roundw
        case rel => exact ⟨j + 1, x ++ [0, c / 65536] ++ [c / 256 % 256, c % 256], by omega, by go_num, HO2.out, HB2.out, HP.out, by rw [HX.out]; omega⟩
        case measure => simp [intOf]; omega
    · obtain rfl : j = n := by omega
      have HP := hid (show wputB true s = .inl x by rw [← hput.out, HN.out, List.take_length])
      go_wp2
      go_ret3
      exact ⟨_, by rw [HP.out]; rfl, by rw [HP.out]; exact hown.out.sl, hbel.out⟩

end Go.Proofs.YtildhebaikeknaaGreat

/-! Ref14b -/
namespace Go.Proofs.YtildhebaikeknaaGreat
open Go.RowKit

set_option maxRecDepth 10000 in
set_option maxHeartbeats 4000000 in
theorem refPut14 (v : Value) (s : List Int) (size : Int) (w : World) (hs : Sl .i64 w v s) (hl : s.length ≤ 100000) : Calls Tryz.prog 37 #[v, .int .i64 size] w fun e w' =>
    ∃ x, e = .returned (.tuple #[x, .int .i64 (wput size s).2.1, .int .i64 (wput size s).2.2]) ∧ Sl .u8 w' x (wput size s).1 ∧ Below w.heap.size w w' := by
  by_cases h2 : size = 2
  · subst h2
    exact refPut14_false v s w hs hl
  · by_cases h4 : size = 4
    · subst h4
      exact refPut14_true v s w hs hl
    · have e : wput size s = ([], 0, 1) := by unfold wput; rw [if_neg h2, if_neg h4]
      rw [e]
      obtain ⟨a1, cap1, rfl, q1, -, h1⟩ := hs
      have e2 : (size != 2) = true := by simp [h2]
      have e4 : (size != 4) = true := by simp [h4]
      clear e h1
      go_enter Tryz.func37, Tryz.ntmps37
      go_wp2
      go_ret3
      exact ⟨_, rfl, (Own.nil .u8 5 0 _).sl, Below.refl _ _⟩

end Go.Proofs.YtildhebaikeknaaGreat
