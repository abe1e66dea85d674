/- Texts whose characters have as many bytes each, plainly: there and back, side by side. No conditions. -/
import Derived.Test.YtelpbjiohkeobaaU8Math
namespace Go.Proofs.Ytelpbjiohkeobaa

/-- the three results of a put, of a get -/
def res3 (err : Int) (r : List Int ⊕ Nat) : List Int × Int × Int := (outL r, (outAt r : Int), outE err r)
/-- the bytes, or where the first number stands that is none -/
def putG (ok : Int → Bool) (enc : Int → List Int) : List Int → List Int ⊕ Nat
  | [] => .inl []
  | c :: s => if ok c then (match putG ok enc s with | .inl x => .inl (enc c ++ x) | .inr k => .inr (k + 1)) else .inr 0
/-- n characters of k bytes each, or where the first one begins that is none -/
def getN (k : Nat) (dec : List Int → Option Int) : Nat → List Int → List Int ⊕ Nat
  | 0, _ => .inl []
  | n + 1, b => match dec (b.take k) with
    | none => .inr 0
    | some c => (match getN k dec n (b.drop k) with | .inl s => .inl (c :: s) | .inr j => .inr (k + j))
section
variable {ok : Int → Bool} {enc : Int → List Int} {k : Nat} {dec : List Int → Option Int}
theorem putG_app : ∀ (a b : List Int), putG ok enc (a ++ b) = match putG ok enc a with | .inl x => (match putG ok enc b with | .inl y => .inl (x ++ y) | .inr k => .inr (a.length + k)) | .inr k => .inr k
  | [], b => by
    simp only [List.nil_append, putG]
    cases putG ok enc b <;> simp
  | a :: s, b => by
    simp only [List.cons_append, putG]
    by_cases hs : ok a = true
    · rw [if_pos hs, if_pos hs, putG_app s b]
      cases putG ok enc s with
      | inr k => rfl
      | inl x =>
        cases putG ok enc b with
        | inl y => simp
        | inr k => simp only [List.length_cons, Sum.inr.injEq]; omega
    · rw [if_neg hs, if_neg hs]
theorem putG_one {c : Int} (h : ok c = true) : putG ok enc [c] = .inl (enc c) := by simp [putG, h]
theorem putG_none {c : Int} (h : ok c = false) : putG ok enc [c] = .inr 0 := by simp [putG, h]
theorem putG_bad : ∀ {a : List Int} {j : Nat}, putG ok enc a = .inr j → j < a.length ∧ ok (a.getD j 0) = false
  | [], j, h => by simp [putG] at h
  | a :: s, j, h => by
    simp only [putG] at h
    by_cases hs : ok a = true
    · rw [if_pos hs] at h
      cases hp : putG ok enc s with
      | inl y => rw [hp] at h; cases h
      | inr i =>
        rw [hp] at h
        simp only [Sum.inr.injEq] at h
        subst h
        have := putG_bad hp
        simp only [List.length_cons]
        exact ⟨by omega, by simpa using this.2⟩
    · rw [if_neg hs] at h
      simp only [Sum.inr.injEq] at h
      subst h
      exact ⟨by simp, by simpa using hs⟩
theorem putG_part {s x : List Int} {j : Nat} (hj : j < s.length) (h : putG ok enc (s.take j) = .inl x) :
    (ok (s.getD j 0) = false → putG ok enc s = .inr j) ∧ (ok (s.getD j 0) = true → putG ok enc (s.take (j + 1)) = .inl (x ++ enc (s.getD j 0))) := by
  have e : s.getD j 0 = s[j] := by rw [List.getD_eq_getElem?_getD, List.getElem?_eq_getElem hj]; rfl
  rw [e]
  constructor
  · intro hs
    have h2 : s = s.take j ++ (s[j] :: s.drop (j + 1)) := by rw [List.getElem_cons_drop, List.take_append_drop]
    have hp := putG_app (ok := ok) (enc := enc) (s.take j) (s[j] :: s.drop (j + 1))
    rw [← h2, h] at hp
    rw [hp]
    simp only [putG, hs, Bool.false_eq_true, if_false, List.length_take]
    congr 1
    omega
  · intro hs
    rw [List.take_succ_eq_append_getElem hj, putG_app, h]
    simp [putG, hs]
theorem putG_all : ∀ {a x : List Int}, putG ok enc a = .inl x → (∀ c ∈ a, ok c = true) ∧ ((∀ c, ok c = true → (enc c).length = k) → x.length = k * a.length) ∧ ((∀ c, ok c = true → U8 (enc c)) → U8 x)
  | [], x, h => by
    simp only [putG, Sum.inl.injEq] at h
    subst h
    exact ⟨fun c hc => (by cases hc), fun _ => (by simp), fun _ y hy => (by cases hy)⟩
  | a :: s, x, h => by
    simp only [putG] at h
    by_cases hs : ok a = true
    · rw [if_pos hs] at h
      cases hp : putG ok enc s with
      | inr k => rw [hp] at h; cases h
      | inl y =>
        rw [hp] at h
        simp only [Sum.inl.injEq] at h
        subst h
        obtain ⟨h1, h2, h3⟩ := putG_all hp
        refine ⟨fun c hc => ?_, fun hk => ?_, fun hu z hz => ?_⟩
        · rcases List.mem_cons.1 hc with rfl | hc
          · exact hs
          · exact h1 c hc
        · rw [List.length_append, hk a hs, h2 hk, List.length_cons, Nat.mul_succ]
          omega
        · rcases List.mem_append.1 hz with hz | hz
          · exact hu a hs z hz
          · exact h3 hu z hz
    · rw [if_neg hs] at h
      cases h
theorem putG_of_all : ∀ {a : List Int}, (∀ c ∈ a, ok c = true) → ∃ x, putG ok enc a = .inl x
  | [], _ => ⟨[], rfl⟩
  | a :: s, h => by
    obtain ⟨x, hx⟩ := putG_of_all (fun c hc => h c (List.mem_cons_of_mem _ hc))
    exact ⟨enc a ++ x, by simp only [putG]; rw [if_pos (h a (List.mem_cons_self ..)), hx]⟩
theorem putG_get (hd : ∀ c, ok c = true → (enc c).length = k ∧ dec (enc c) = some c) : ∀ {a x : List Int}, putG ok enc a = .inl x → getN k dec a.length x = .inl a
  | [], x, _ => rfl
  | a :: s, x, h => by
    simp only [putG] at h
    by_cases hs : ok a = true
    · rw [if_pos hs] at h
      cases hp : putG ok enc s with
      | inr k => rw [hp] at h; cases h
      | inl y =>
        rw [hp] at h
        simp only [Sum.inl.injEq] at h
        subst h
        obtain ⟨h1, h2⟩ := hd a hs
        simp only [List.length_cons, getN]
        rw [show (enc a ++ y).take k = enc a by rw [← h1, List.take_left], show (enc a ++ y).drop k = y by rw [← h1, List.drop_left], h2]
        simp only
        rw [putG_get hd hp]
    · rw [if_neg hs] at h
      cases h
theorem getN_put (hd : ∀ ch c, U8 ch → ch.length = k → dec ch = some c → ok c = true ∧ enc c = ch) : ∀ {n : Nat} {b s : List Int}, U8 b → b.length = k * n → getN k dec n b = .inl s → putG ok enc s = .inl b ∧ s.length = n
  | 0, b, s, _, hb, h => by
    simp only [getN, Sum.inl.injEq] at h
    subst h
    have : b = [] := List.eq_nil_of_length_eq_zero (by simpa using hb)
    subst this
    exact ⟨rfl, rfl⟩
  | n + 1, b, s, hu, hb, h => by
    simp only [getN] at h
    rw [Nat.mul_succ] at hb
    cases hc : dec (b.take k) with
    | none => rw [hc] at h; cases h
    | some c =>
      rw [hc] at h
      simp only at h
      cases hg : getN k dec n (b.drop k) with
      | inr j => rw [hg] at h; cases h
      | inl t =>
        rw [hg] at h
        simp only [Sum.inl.injEq] at h
        subst h
        obtain ⟨h1, h2⟩ := hd _ c (fun x hx => hu x (List.mem_of_mem_take hx)) (by rw [List.length_take]; omega) hc
        obtain ⟨h3, h4⟩ := getN_put hd (fun x hx => hu x (List.mem_of_mem_drop hx)) (by rw [List.length_drop]; omega) hg
        simp only [putG]
        rw [if_pos h1, h3, h2]
        simp only [List.take_append_drop, List.length_cons, h4, and_self]
/-- one character more -/
theorem getN_part {n j : Nat} {b t : List Int} (hj : j < n) (h : getN k dec n b = goOn t (k * j) (getN k dec (n - j) (b.drop (k * j)))) :
    (dec ((b.drop (k * j)).take k) = none → getN k dec n b = .inr (k * j)) ∧ (∀ c, dec ((b.drop (k * j)).take k) = some c → getN k dec n b = goOn (t ++ [c]) (k * (j + 1)) (getN k dec (n - (j + 1)) (b.drop (k * (j + 1))))) := by
  rw [show n - j = (n - (j + 1)) + 1 by omega] at h
  simp only [getN] at h
  constructor
  · intro hd
    rw [hd] at h
    rw [h]
    simp [goOn]
  · intro c hd
    rw [hd] at h
    simp only [List.drop_drop] at h
    rw [← Nat.mul_succ] at h
    rw [h]
    cases getN k dec (n - (j + 1)) (b.drop (k * (j + 1))) with
    | inl u => simp [goOn]
    | inr x => simp only [goOn, Nat.mul_succ, Sum.inr.injEq]; omega
theorem getN_end {n : Nat} {b t : List Int} (h : getN k dec n b = goOn t (k * n) (getN k dec (n - n) (b.drop (k * n)))) : getN k dec n b = .inl t := by
  rw [h, Nat.sub_self]
  simp [getN, goOn]
end
end Go.Proofs.Ytelpbjiohkeobaa
