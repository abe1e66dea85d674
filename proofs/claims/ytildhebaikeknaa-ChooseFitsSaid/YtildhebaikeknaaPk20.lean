/- Several texts in one: TelPut, StrLen. -/
import Derived.Test.YtildhebaikeknaaPk19
/-! TelPut -/
namespace Go.Proofs.Ytildhebaikeknaa
set_option linter.unusedVariables false

theorem set_inI {s : Int} (h : s ∈ tabSets ++ [103]) : inI s = true := by
  have : ∀ x ∈ tabSets ++ [103], inI x = true := by decide
  exact this s h
/-- what was written of so many scalars, ahead of what is written of the others -/
def aheadP (j : Nat) (x : List Int) : List Int ⊕ Nat → List Int ⊕ Nat
  | .inl l => .inl (x ++ l)
  | .inr i => .inr (j + i)
theorem aheadP_nil (y : List Int ⊕ Nat) : aheadP 0 [] y = y := by cases y <;> simp [aheadP]
theorem aheadP_some {g c h : Int} {bs r x : List Int} {j : Nat} (ho : oneP g c = some (bs, h)) : aheadP j x (putF g (c :: r)) = aheadP (j + 1) (x ++ bs) (putF h r) := by
  rw [putF, ho]
  simp only
  cases putF h r with
  | inl l => simp [aheadP]
  | inr i => simp only [aheadP]; congr 1; omega
theorem aheadP_none {g c : Int} {r x : List Int} {j : Nat} (ho : oneP g c = none) : aheadP j x (putF g (c :: r)) = .inr j := by
  rw [putF, ho]
  simp [aheadP]
theorem one_more18 {g c h : Int} {bs : List Int} (hg : inI g = true) (ho : oneP g c = some (bs, h)) : 0 < bs.length ∧ inI h = true := by
  have hb : ∀ p, 0 < (bytP p).length := fun p => by unfold bytP; split <;> simp
  unfold oneP at ho
  split at ho
  · cases ho; exact ⟨by simp, hg⟩
  · split at ho
    · cases ho; exact ⟨hb _, hg⟩
    · split at ho
      · cases ho; exact ⟨by simp, hg⟩
      · split at ho
        · split at ho
          · cases ho; exact ⟨by simp, hg⟩
          · cases ho; exact ⟨by simp, by decide⟩
        · split at ho
          · rename_i hd
            obtain ⟨hm, -⟩ := fndI_mem (p := fun s => (findS16 s c).2) (l := tabSets) (eta2 hd : fndI (fun s => (findS16 s c).2) tabSets = ((fndI (fun s => (findS16 s c).2) tabSets).1, true))
            generalize fndI (fun s => (findS16 s c).2) tabSets = D at ho hm
            injection ho with ho
            simp only [Prod.mk.injEq] at ho
            obtain ⟨rfl, rfl⟩ := ho
            exact ⟨by rw [List.length_append]; have := hb (findS16 D.1 c).1; omega, set_inI (List.mem_append_left _ hm)⟩
          · cases ho
end Go.Proofs.Ytildhebaikeknaa

/-! StrLen -/
namespace Go.Proofs.Ytildhebaikeknaa
open Go.RowKit

theorem isK_of {k : Int} {s : List Int} (h : (sput k s).2.2 = 0) : 0 ≤ k ∧ k ≤ 30 := by
  cases hk : isK k with
  | false => rw [sput_not s hk] at h; exact absurd h (by simp)
  | true =>
    unfold isK narK at hk
    simp only [Bool.or_eq_true, decide_eq_true_iff] at hk
    omega
theorem sput_len {k : Int} {s : List Int} (hl : s.length ≤ 100000) : (sput k s).1.length ≤ 1000000 := by
  have none : ∀ (e : Int) (i : Nat), (res3 e (.inr i)).1.length ≤ 1000000 := fun e i => by simp [res3, outL]
  unfold sput
  by_cases h1 : k = 12
  · rw [if_pos h1]
    cases hp : putU s with
    | inl x => have := (put_len hp).2; show x.length ≤ _; omega
    | inr i => exact none _ _
  rw [if_neg h1]
  by_cases h2 : k = 20
  · rw [if_pos h2]
    cases hp : put18 s with
    | inl x => have := put_len18 hp; show x.length ≤ _; omega
    | inr i => exact none _ _
  rw [if_neg h2]
  by_cases h3 : k = 30
  · rw [if_pos h3]
    unfold wput
    rw [if_pos rfl]
    cases hp : wputB false s with
    | inl x => have := (wput_get hp).2.1; unfold wk at this; simp at this; show x.length ≤ _; omega
    | inr i => exact none _ _
  rw [if_neg h3]
  by_cases h4 : k = 28
  · rw [if_pos h4]
    unfold wput
    rw [if_neg (by decide), if_pos rfl]
    cases hp : wputB true s with
    | inl x => have := (wput_get hp).2.1; unfold wk at this; simp at this; show x.length ≤ _; omega
    | inr i => exact none _ _
  rw [if_neg h4]
  unfold nput
  split
  · cases hp : nchk k s with
    | inl x => have := (nchk_same hp).1; show x.length ≤ _; rw [this]; omega
    | inr i => exact none _ _
  · simp
theorem u8_nil : U8 [] := fun x hx => by cases hx
theorem sput_u8 (k : Int) (s : List Int) : U8 (sput k s).1 := by
  unfold sput
  by_cases h1 : k = 12
  · rw [if_pos h1]
    cases hp : putU s with
    | inl x => exact put_u8 hp
    | inr i => exact u8_nil
  rw [if_neg h1]
  by_cases h2 : k = 20
  · rw [if_pos h2]
    cases hp : put18 s with
    | inl x => exact put_bytes18 hp
    | inr i => exact u8_nil
  rw [if_neg h2]
  by_cases h3 : k = 30
  · rw [if_pos h3]
    unfold wput
    rw [if_pos rfl]
    cases hp : wputB false s with
    | inl x => exact (wput_get hp).2.2.1
    | inr i => exact u8_nil
  rw [if_neg h3]
  by_cases h4 : k = 28
  · rw [if_pos h4]
    unfold wput
    rw [if_neg (by decide), if_pos rfl]
    cases hp : wputB true s with
    | inl x => exact (wput_get hp).2.2.1
    | inr i => exact u8_nil
  rw [if_neg h4]
  unfold nput
  split
  · cases hp : nchk k s with
    | inl x => have h := nchk_u8 hp; rw [← (nchk_same hp).1] at h; exact h
    | inr i => exact u8_nil
  · exact u8_nil
/-- a string's DER value: its content, or what is wrong with it -/
def unK (k : Int) (b : List Int) : List Int × Int := if (oneT b).2.2.2 ≠ 0 then ([], (oneT b).2.2.2) else if (oneT b).1.cls ≠ 0 ∨ (oneT b).1.tag ≠ k then ([], 3) else if (oneT b).1.cons = true then ([], 7) else if (oneT b).2.2.1 ≠ [] then ([], 5) else ((oneT b).2.1, 0)
/-- its scalars -/
def decK (k : Int) (b : List Int) : List Int × Int × Int := if isK k = true then (if (unK k b).2 = 0 then sget k (unK k b).1 else ([], 0, (unK k b).2)) else ([], 0, 18)
def trnK (k l : Int) (b : List Int) : List Int × Int × Int := if (decK k b).2.2 = 0 then encS l (decK k b).1 else ([], (decK k b).2.1, (decK k b).2.2)
theorem one_parts (b : List Int) (hu : U8 b) : (oneT b).2.1.length ≤ b.length ∧ U8 (oneT b).2.1 := by
  unfold oneT
  split
  · exact ⟨Nat.zero_le _, u8_nil⟩
  split
  · exact ⟨Nat.zero_le _, u8_nil⟩
  · refine ⟨?_, fun x hx => hu x (List.mem_of_mem_drop (List.mem_of_mem_take hx))⟩
    rw [List.length_take, List.length_drop]
    omega
theorem wget_bad {f : Bool} {b s : List Int} {a e : Int} (h : wgetB f b = (s, a, e)) (he : e ≠ 0) : (s, a, e) = (([] : List Int), a, e) := by
  unfold wgetB at h
  split at h
  · cases hg : getN (wk f) wdec (b.length / wk f) b with
    | inl x => rw [hg] at h; simp [res3, outL, outE] at h; exact absurd h.2.2.symm he
    | inr i => rw [hg] at h; simp [res3, outL] at h; rw [h.1]
  · simp at h
    rw [h.1]
theorem unK_len (k : Int) {b : List Int} (hu : U8 b) : (unK k b).1.length ≤ b.length ∧ U8 (unK k b).1 := by
  have h := one_parts b hu
  unfold unK
  split
  · exact ⟨Nat.zero_le _, u8_nil⟩
  split
  · exact ⟨Nat.zero_le _, u8_nil⟩
  split
  · exact ⟨Nat.zero_le _, u8_nil⟩
  split
  · exact ⟨Nat.zero_le _, u8_nil⟩
  · exact h
theorem inI_scalar {c : Int} (h : scalarB c = true) : inI c = true := by
  have := scalar_parts h
  unfold inI
  simp
  omega
theorem sget_len (k : Int) {b : List Int} (hu : U8 b) : (sget k b).1.length ≤ b.length ∧ (sget k b).1.all inI = true := by
  unfold sget
  by_cases h1 : k = 12
  · rw [if_pos h1]
    cases hp : getU b with
    | inl x => exact ⟨(get_len hu hp).1, List.all_eq_true.2 fun c hc => inI_scalar (get_scalars hu hp c hc)⟩
    | inr i => exact ⟨Nat.zero_le _, rfl⟩
  rw [if_neg h1]
  by_cases h2 : k = 20
  · rw [if_pos h2]
    cases hp : read18 b with
    | inl x => exact ⟨read_len18 hp, read_in18 hu hp⟩
    | inr i => exact ⟨Nat.zero_le _, rfl⟩
  rw [if_neg h2]
  have wide : ∀ f, (wgetB f b).1.length ≤ b.length ∧ (wgetB f b).1.all inI = true := fun f => by
    obtain ⟨R, hR⟩ : ∃ R, R = wgetB f b := ⟨_, rfl⟩
    obtain ⟨s, a, e⟩ := R
    rw [← hR]
    by_cases he : e = 0
    · subst he
      have h := wget_put hu hR.symm
      have h2 := wput_get h.1
      have h3 : 1 ≤ wk f := by unfold wk; split <;> omega
      refine ⟨?_, List.all_eq_true.2 fun c hc => inI_scalar (wok_parts (h2.2.2.2 c hc)).1⟩
      have := Nat.le_mul_of_pos_right s.length h3
      dsimp only
      omega
    · rw [wget_bad hR.symm he]
      exact ⟨Nat.zero_le _, rfl⟩
  by_cases h3 : k = 30
  · rw [if_pos h3]
    unfold wget
    rw [if_pos rfl]
    exact wide false
  rw [if_neg h3]
  by_cases h4 : k = 28
  · rw [if_pos h4]
    unfold wget
    rw [if_neg (by decide), if_pos rfl]
    exact wide true
  rw [if_neg h4]
  unfold nget
  split
  · cases hp : nchk k b with
    | inl x =>
      have h := nchk_same hp
      refine ⟨by show x.length ≤ _; rw [h.1]; omega, List.all_eq_true.2 fun c hc => ?_⟩
      have := narB_u8 (h.2 c (by rw [← h.1]; exact hc))
      unfold inI
      simp
      omega
    | inr i => exact ⟨Nat.zero_le _, rfl⟩
  · exact ⟨Nat.zero_le _, rfl⟩
theorem decK_len (k : Int) {b : List Int} (hu : U8 b) : (decK k b).1.length ≤ b.length ∧ (decK k b).1.all inI = true := by
  have h := unK_len k hu
  unfold decK
  split
  · split
    · have h2 := sget_len k h.2
      exact ⟨Nat.le_trans h2.1 h.1, h2.2⟩
    · exact ⟨Nat.zero_le _, rfl⟩
  · exact ⟨Nat.zero_le _, rfl⟩
end Go.Proofs.Ytildhebaikeknaa
