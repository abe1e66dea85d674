/- The encoding of scalars in bytes of UTF-8, plainly. No conditions. -/
import Derived.Test.YtelpbjiohkeobaaNum
namespace Go.Proofs.Ytelpbjiohkeobaa

def u8enc (c : Int) : List Int :=
  if c < 128 then [c] else if c < 2048 then [192 + c / 64, 128 + c % 64]
  else if c < 65536 then [224 + c / 4096, 128 + c / 64 % 64, 128 + c % 64]
  else [240 + c / 262144, 128 + c / 4096 % 64, 128 + c / 64 % 64, 128 + c % 64]
/-- how many bytes begin with this one (0: none does), and what it gives -/
def lead (c : Int) : Nat × Int :=
  if 192 ≤ c ∧ c < 224 then (2, c - 192) else if 224 ≤ c ∧ c < 240 then (3, c - 224) else if 240 ≤ c ∧ c < 248 then (4, c - 240) else (0, c)
/-- the bytes that go on -/
def cont : Int → List Int → Option Int
  | c, [] => some c
  | c, b :: r => if b < 128 ∨ 192 ≤ b then none else cont (64 * c + b - 128) r
def u8one : List Int → Int × Nat
  | [] => (0, 0)
  | c0 :: r => if c0 < 128 then (c0, 1) else
      if (lead c0).1 = 0 ∨ r.length + 1 < (lead c0).1 then (0, 0) else
        match cont (lead c0).2 (r.take ((lead c0).1 - 1)) with
        | none => (0, 0)
        | some c => if scalarB c = true ∧ (u8enc c).length = (lead c0).1 then (c, (lead c0).1) else (0, 0)
theorem u8enc_len (c : Int) : 1 ≤ (u8enc c).length ∧ (u8enc c).length ≤ 4 := by
  unfold u8enc
  split
  · simp
  split
  · simp
  split <;> simp
theorem u8enc_u8 {c : Int} (h : scalarB c = true) : U8 (u8enc c) := by
  unfold scalarB at h
  have h := of_decide_eq_true h
  unfold u8enc
  split
  · intro x hx; simp at hx; omega
  split
  · intro x hx; simp at hx; omega
  split <;> (intro x hx; simp at hx; omega)
theorem one_enc {c : Int} (h : scalarB c = true) (r : List Int) : u8one (u8enc c ++ r) = (c, (u8enc c).length) := by
  have hs := h
  unfold scalarB at hs
  have hs := of_decide_eq_true hs
  by_cases h1 : c < 128
  · simp [u8enc, h1, u8one]
  by_cases h2 : c < 2048
  · have e : u8enc c = [192 + c / 64, 128 + c % 64] := by simp [u8enc, h1, h2]
    have l : lead (192 + c / 64) = (2, c / 64) := by unfold lead; rw [if_pos (by omega)]; congr 1; omega
    rw [e]
    simp only [List.cons_append, List.nil_append, u8one, l]
    rw [if_neg (by omega), if_neg (by simp)]
    have ec : cont (c / 64) (((128 + c % 64) :: r).take (2 - 1)) = some c := by
      simp only [Nat.reduceSub, List.take_succ_cons, List.take_zero, cont]
      rw [if_neg (by omega)]
      congr 1
      omega
    rw [ec]
    simp [h, e]
  by_cases h3 : c < 65536
  · have e : u8enc c = [224 + c / 4096, 128 + c / 64 % 64, 128 + c % 64] := by simp [u8enc, h1, h2, h3]
    have l : lead (224 + c / 4096) = (3, c / 4096) := by unfold lead; rw [if_neg (by omega), if_pos (by omega)]; congr 1; omega
    rw [e]
    simp only [List.cons_append, List.nil_append, u8one, l]
    rw [if_neg (by omega), if_neg (by simp)]
    have ec : cont (c / 4096) (((128 + c / 64 % 64) :: (128 + c % 64) :: r).take (3 - 1)) = some c := by
      simp only [Nat.reduceSub, List.take_succ_cons, List.take_zero, cont]
      rw [if_neg (by omega), if_neg (by omega)]
      congr 1
      omega
    rw [ec]
    simp [h, e]
  · have e : u8enc c = [240 + c / 262144, 128 + c / 4096 % 64, 128 + c / 64 % 64, 128 + c % 64] := by simp [u8enc, h1, h2, h3]
    have l : lead (240 + c / 262144) = (4, c / 262144) := by unfold lead; rw [if_neg (by omega), if_neg (by omega), if_pos (by omega)]; congr 1; omega
    rw [e]
    simp only [List.cons_append, List.nil_append, u8one, l]
    rw [if_neg (by omega), if_neg (by simp)]
    have ec : cont (c / 262144) (((128 + c / 4096 % 64) :: (128 + c / 64 % 64) :: (128 + c % 64) :: r).take (4 - 1)) = some c := by
      simp only [Nat.reduceSub, List.take_succ_cons, List.take_zero, cont]
      rw [if_neg (by omega), if_neg (by omega), if_neg (by omega)]
      congr 1
      omega
    rw [ec]
    simp [h, e]
theorem enc_lens (c : Int) : ((u8enc c).length = 1 ↔ c < 128) ∧ ((u8enc c).length = 2 ↔ 128 ≤ c ∧ c < 2048) ∧ ((u8enc c).length = 3 ↔ 2048 ≤ c ∧ c < 65536) ∧ ((u8enc c).length = 4 ↔ 65536 ≤ c) := by
  unfold u8enc
  split
  · simp; omega
  split
  · simp; omega
  split <;> (simp; omega)
theorem enc_one {b : List Int} {c : Int} {n : Nat} (hu : U8 b) (h : u8one b = (c, n)) (hn : n ≠ 0) : scalarB c = true ∧ u8enc c = b.take n ∧ n ≤ b.length := by
  cases b with
  | nil => simp [u8one] at h; omega
  | cons c0 r =>
    have h0 := hu c0 (List.mem_cons_self ..)
    rw [u8one] at h
    by_cases h1 : c0 < 128
    · rw [if_pos h1] at h
      simp only [Prod.mk.injEq] at h
      obtain ⟨rfl, rfl⟩ := h
      exact ⟨scalar_t (by omega), by simp [u8enc, h1], by simp⟩
    rw [if_neg h1] at h
    by_cases hl : (lead c0).1 = 0 ∨ r.length + 1 < (lead c0).1
    · rw [if_pos hl] at h
      simp at h
      omega
    rw [if_neg hl] at h
    cases hc : cont (lead c0).2 (r.take ((lead c0).1 - 1)) with
    | none => rw [hc] at h; simp at h; omega
    | some x =>
      rw [hc] at h
      simp only at h
      by_cases hx : scalarB x = true ∧ (u8enc x).length = (lead c0).1
      · rw [if_pos hx] at h
        simp only [Prod.mk.injEq] at h
        obtain ⟨rfl, rfl⟩ := h
        refine ⟨hx.1, ?_, by simp only [List.length_cons]; omega⟩
        have hln := enc_lens x
        by_cases k2 : 192 ≤ c0 ∧ c0 < 224
        · have l : lead c0 = (2, c0 - 192) := by unfold lead; rw [if_pos k2]
          rw [l] at hc hx hl ⊢
          simp only at hc hx hl ⊢
          match r, hl, hc with
          | b1 :: r, _, hc =>
            simp only [Nat.reduceSub, List.take_succ_cons, List.take_zero, cont] at hc
            split at hc
            · cases hc
            · simp only [Option.some.injEq] at hc
              have hr := hln.2.1.1 hx.2
              simp only [List.take_succ_cons, List.take_zero]
              unfold u8enc
              rw [if_neg (by omega), if_pos (by omega)]
              congr 1
              · omega
              · congr 1; omega
          | [], hl, _ => simp at hl
        by_cases k3 : 224 ≤ c0 ∧ c0 < 240
        · have l : lead c0 = (3, c0 - 224) := by unfold lead; rw [if_neg k2, if_pos k3]
          rw [l] at hc hx hl ⊢
          simp only at hc hx hl ⊢
          match r, hl, hc with
          | b1 :: b2 :: r, _, hc =>
            simp only [Nat.reduceSub, List.take_succ_cons, List.take_zero, cont] at hc
            split at hc
            · cases hc
            split at hc
            · cases hc
            · simp only [Option.some.injEq] at hc
              have hr := hln.2.2.1.1 hx.2
              simp only [List.take_succ_cons, List.take_zero]
              unfold u8enc
              rw [if_neg (by omega), if_neg (by omega), if_pos (by omega)]
              congr 1
              · omega
              · congr 1
                · omega
                · congr 1; omega
          | [b1], hl, _ => simp at hl
          | [], hl, _ => simp at hl
        by_cases k4 : 240 ≤ c0 ∧ c0 < 248
        · have l : lead c0 = (4, c0 - 240) := by unfold lead; rw [if_neg k2, if_neg k3, if_pos k4]
          rw [l] at hc hx hl ⊢
          simp only at hc hx hl ⊢
          match r, hl, hc with
          | b1 :: b2 :: b3 :: r, _, hc =>
            simp only [Nat.reduceSub, List.take_succ_cons, List.take_zero, cont] at hc
            split at hc
            · cases hc
            split at hc
            · cases hc
            split at hc
            · cases hc
            · simp only [Option.some.injEq] at hc
              have hr := hln.2.2.2.1 hx.2
              simp only [List.take_succ_cons, List.take_zero]
              unfold u8enc
              rw [if_neg (by omega), if_neg (by omega), if_neg (by omega)]
              congr 1
              · omega
              · congr 1
                · omega
                · congr 1
                  · omega
                  · congr 1; omega
          | [b1, b2], hl, _ => simp at hl
          | [b1], hl, _ => simp at hl
          | [], hl, _ => simp at hl
        · have l : (lead c0).1 = 0 := by unfold lead; rw [if_neg k2, if_neg k3, if_neg k4]
          rw [l] at hl
          simp at hl
      · rw [if_neg hx] at h
        simp at h
        omega
end Go.Proofs.Ytelpbjiohkeobaa
