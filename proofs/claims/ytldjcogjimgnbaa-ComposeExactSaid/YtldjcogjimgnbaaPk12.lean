/- Several texts in one: Ref6c, Ref8. -/
import Derived.Test.YtldjcogjimgnbaaPk11
import Derived.Test.YtldjcogjimgnbaaPk3
import Derived.Test.YtldjcogjimgnbaaPk2
/-! Ref6c -/
namespace Go.Proofs.Ytldjcogjimgnbaa
open Go.RowKit

set_option maxRecDepth 100000 in
theorem canon_off : (tabCanon.all fun r => scalarB r.f) = true := by decide +kernel
theorem canon_row (c : Int) : rowS (fndS (fun r => r.f == c) tabCanon) = canonS c := by
  cases hb : scalarB c with
  | true => exact canonS_t hb
  | false =>
    rw [← canonS_f hb]
    have key : ∀ l : List Rg, (l.all fun r => scalarB r.f) = true → fndS (fun r => r.f == c) l = (noRg, false) := fun l => by
      induction l with
      | nil => intro _; rfl
      | cons r l ih =>
        intro h
        simp only [List.all_cons, Bool.and_eq_true] at h
        rw [fndS]
        split
        · rename_i he
          have := eq_of_beq he
          rw [this, hb] at h
          simp at h
        · exact ih h.2
    rw [key _ canon_off]
    rfl

end Go.Proofs.Ytldjcogjimgnbaa

/-! Ref8 -/
namespace Go.Proofs.Ytldjcogjimgnbaa
open Go.RowKit

/-- what a number comes apart to at once -/
def stepS (k : Bool) (c : Int) : List Int := if (canonS c).isEmpty then (if k then mapS tabCompat c else []) else canonS c
def oneN (k : Bool) : Nat → Int → List Int
  | 0, c => [c]
  | n + 1, c => if (splitS c).isEmpty then (if (stepS k c).isEmpty then [c] else (stepS k c).flatMap (oneN k n)) else splitS c
/-- so many levels suffice -/
def deepB (k : Bool) : Nat → Int → Bool
  | 0, _ => false
  | n + 1, c => inI c && (!(splitS c).isEmpty || (stepS k c).all (deepB k n))
theorem oneN_len {k : Bool} (hs : ∀ c, (stepS k c).length ≤ 3) : ∀ (n : Nat) (c : Int), (oneN k n c).length ≤ 3 ^ n * 3
  | 0, c => by simp [oneN]
  | n + 1, c => by
    have ih := oneN_len hs n
    have hp : 1 ≤ 3 ^ (n + 1) := Nat.one_le_pow _ _ (by omega)
    rw [oneN]
    split
    · split
      · simp only [List.length_cons, List.length_nil]
        omega
      · have key : ∀ l : List Int, (l.flatMap (oneN k n)).length ≤ l.length * (3 ^ n * 3) := fun l => by
          induction l with
          | nil => simp
          | cons x l ihl =>
            rw [List.flatMap_cons, List.length_append, List.length_cons, Nat.succ_mul]
            have := ih x
            omega
        have h1 := key (stepS k c)
        have h2 := Nat.mul_le_mul_right (3 ^ n * 3) (hs c)
        rw [Nat.pow_succ]
        omega
    · have : (splitS c).length ≤ 3 := by
        unfold splitS partsN
        split
        · split <;> simp
        · simp
      omega
set_option maxRecDepth 100000 in
theorem compat_len3 : (tabCompat.all fun m => decide (m.t.length ≤ 3)) = true := by decide +kernel
theorem stepS_len (k : Bool) (c : Int) : (stepS k c).length ≤ 3 := by
  have h1 : (canonS c).length ≤ 3 := by
    unfold canonS rowS
    split
    · split
      · split <;> simp
      · simp
    · simp
  have key : ∀ l : List Mp, (l.all fun m => decide (m.t.length ≤ 3)) = true → (fndM c l).1.t.length ≤ 3 := fun l => by
    induction l with
    | nil => intro _; exact Nat.zero_le _
    | cons m l ih =>
      intro h
      simp only [List.all_cons, Bool.and_eq_true, decide_eq_true_eq] at h
      rw [fndM]
      split
      · exact h.1
      · exact ih h.2
  have h2 : (mapS tabCompat c).length ≤ 3 := by
    unfold mapS
    split
    · exact key _ compat_len3
    · simp
  unfold stepS
  split
  · split
    · exact h2
    · simp
  · exact h1

theorem each_len (k : Bool) (n : Nat) : ∀ l : List Int, (l.flatMap (oneN k n)).length ≤ l.length * (3 ^ n * 3)
  | [] => by simp
  | x :: l => by
    have := oneN_len (stepS_len k) n x
    have ih := each_len k n l
    rw [List.flatMap_cons, List.length_append, List.length_cons, Nat.succ_mul]
    omega

end Go.Proofs.Ytldjcogjimgnbaa
