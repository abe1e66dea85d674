/- Characters of one byte, plainly: what a kind has; its texts. No conditions. -/
import Derived.Test.YtelpbjiohkeobaaFix
import Derived.Test.YtelpbjiohkeobaaNarIn
namespace Go.Proofs.Ytelpbjiohkeobaa

def narP (c : Int) : Bool := decide ((48 ≤ c ∧ c ≤ 57) ∨ (32 ≤ c ∧ c ≤ 32) ∨ (65 ≤ c ∧ c ≤ 90) ∨ (97 ≤ c ∧ c ≤ 122) ∨ (39 ≤ c ∧ c ≤ 41) ∨ (43 ≤ c ∧ c ≤ 47) ∨ (58 ≤ c ∧ c ≤ 58) ∨ (61 ≤ c ∧ c ≤ 61) ∨ (63 ≤ c ∧ c ≤ 63))
def narB (kind c : Int) : Bool :=
  if kind = 18 then decide ((48 ≤ c ∧ c ≤ 57) ∨ c = 32) else if kind = 19 then narP c else if kind = 22 then inR c 0 127 else if kind = 26 then inR c 32 126 else false
def narK (kind : Int) : Bool := decide (kind = 18 ∨ kind = 19 ∨ kind = 22 ∨ kind = 26)
theorem narB_none {kind c : Int} (h : narK kind = false) : narB kind c = false := by
  have h := of_decide_eq_false h
  unfold narB
  rw [if_neg (by omega), if_neg (by omega), if_neg (by omega), if_neg (by omega)]
theorem narB_u8 {kind c : Int} (h : narB kind c = true) : 0 ≤ c ∧ c ≤ 127 := by
  unfold narB at h
  by_cases h1 : kind = 18
  · rw [if_pos h1] at h; have := of_decide_eq_true h; omega
  · rw [if_neg h1] at h
    by_cases h2 : kind = 19
    · rw [if_pos h2] at h; have := of_decide_eq_true h; omega
    · rw [if_neg h2] at h
      by_cases h3 : kind = 22
      · rw [if_pos h3] at h; have := of_decide_eq_true h; omega
      · rw [if_neg h3] at h
        by_cases h4 : kind = 26
        · rw [if_pos h4] at h; have := of_decide_eq_true h; omega
        · rw [if_neg h4] at h; cases h
/-- the characters, or where the first one stands that the kind has not -/
def nchk (kind : Int) (s : List Int) : List Int ⊕ Nat := putG (narB kind) (fun c => [c]) s
def nput (kind : Int) (s : List Int) : List Int × Int × Int := if narK kind then res3 14 (nchk kind s) else ([], 0, 18)
def nget (kind : Int) (s : List Int) : List Int × Int × Int := if narK kind then res3 13 (nchk kind s) else ([], 0, 18)
theorem nchk_same : ∀ {kind : Int} {s x : List Int}, nchk kind s = .inl x → x = s ∧ ∀ c ∈ s, narB kind c = true
  | kind, [], x, h => by
    simp only [nchk, putG, Sum.inl.injEq] at h
    exact ⟨h.symm, fun c hc => by cases hc⟩
  | kind, c :: s, x, h => by
    simp only [nchk, putG] at h
    by_cases hc : narB kind c = true
    · rw [if_pos hc] at h
      cases hs : putG (narB kind) (fun c => [c]) s with
      | inr k => rw [hs] at h; cases h
      | inl y =>
        rw [hs] at h
        simp only [Sum.inl.injEq] at h
        obtain ⟨rfl, h2⟩ := nchk_same (s := s) hs
        exact ⟨h.symm, fun d hd => by
          rcases List.mem_cons.1 hd with rfl | hd
          · exact hc
          · exact h2 d hd⟩
    · rw [if_neg hc] at h; cases h
theorem nchk_u8 {kind : Int} {s x : List Int} (h : nchk kind s = .inl x) : U8 s := fun c hc => by have := narB_u8 ((nchk_same h).2 c hc); omega
theorem nchk_self {kind : Int} {s x : List Int} (h : nchk kind s = .inl x) : nchk kind s = .inl s := by rw [h, (nchk_same h).1]
theorem nchk_bad {kind : Int} {s : List Int} {j : Nat} (h : nchk kind s = .inr j) : j < s.length ∧ narB kind (s.getD j 0) = false := putG_bad h
/-- where the first character of the last ones stands that the kind has not -/
def nfrom (kind : Int) (s : List Int) (j : Nat) : Nat := match nchk kind (s.drop j) with | .inl _ => s.length | .inr k => j + k
theorem nfrom_end (kind : Int) (s : List Int) : nfrom kind s s.length = s.length := by unfold nfrom; rw [List.drop_length]; rfl
theorem nfrom_step {kind : Int} {s : List Int} {j : Nat} (hj : j < s.length) : nfrom kind s j = if narB kind (s.getD j 0) then nfrom kind s (j + 1) else j := by
  have e : s.drop j = s.getD j 0 :: s.drop (j + 1) := by
    rw [List.drop_eq_getElem_cons hj, List.getD_eq_getElem?_getD, List.getElem?_eq_getElem hj]; rfl
  unfold nfrom nchk
  rw [e]
  simp only [putG]
  by_cases hc : narB kind (s.getD j 0) = true
  · rw [if_pos hc, if_pos hc]
    cases putG (narB kind) (fun c => [c]) (s.drop (j + 1)) with
    | inl x => rfl
    | inr k => simp only []; omega
  · rw [if_neg hc, if_neg hc]
    rfl
theorem nfrom_inl {kind : Int} {s x : List Int} (h : nchk kind s = .inl x) : nfrom kind s 0 = s.length := by unfold nfrom; rw [List.drop_zero, h]
theorem nfrom_inr {kind : Int} {s : List Int} {k : Nat} (h : nchk kind s = .inr k) : nfrom kind s 0 = k := by unfold nfrom; rw [List.drop_zero, h]; simp
theorem nfrom_le {kind : Int} {s : List Int} (j : Nat) (hj : j ≤ s.length) : nfrom kind s j ≤ s.length := by
  unfold nfrom
  cases h : nchk kind (s.drop j) with
  | inl x => exact Nat.le_refl _
  | inr k =>
    have := (nchk_bad h).1
    rw [List.length_drop] at this
    simp only []
    omega
end Go.Proofs.Ytelpbjiohkeobaa
