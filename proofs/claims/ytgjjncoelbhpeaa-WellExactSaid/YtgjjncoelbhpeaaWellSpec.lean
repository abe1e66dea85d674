/- The plain functions that say what checking nested values answers, over lists of numbers. No conditions. -/
import Derived.Test.YtgjjncoelbhpeaaTlvSpec
namespace Go.Proofs.Ytgjjncoelbhpeaa
open Go.RowKit

/-- an answer: the error, where or how far, how deep -/
structure WR where
  e : Int
  pos : Nat
  deep : Nat

/-- has a value parts just if its tag says so? -/
def rightS (h : Hd) : Bool := if h.cls ≠ 0 ∨ 31 ≤ h.tag then true else h.cons == decide (h.tag = 8 ∨ h.tag = 11 ∨ h.tag = 16 ∨ h.tag = 17)

/-- the error at the value with which the numbers begin, its depth aside -/
def headE (xs : List Int) : Int :=
  if (rd xs).2 ≠ 0 then (rd xs).2
  else if (rd xs).1.cls = 0 ∧ (rd xs).1.tag = 0 then 3
  else if rightS (rd xs).1 = false then 7
  else if (xs.length : Int) - (rd xs).1.size < (rd xs).1.len then 2
  else 0

def szS (xs : List Int) : Nat := (rd xs).1.size.toNat
def bodyS (xs : List Int) : List Int := (xs.drop (szS xs)).take (rd xs).1.len.toNat
def endS (xs : List Int) : Nat := ((rd xs).1.size + (rd xs).1.len).toNat

/-- the first value, whose content g checks -/
def oneW (g : List Int → WR) (xs : List Int) : WR :=
  if headE xs ≠ 0 then ⟨headE xs, 0, 0⟩
  else if (rd xs).1.cons = true then
    (if (g (bodyS xs)).e ≠ 0 then ⟨(g (bodyS xs)).e, szS xs + (g (bodyS xs)).pos, 0⟩ else ⟨0, endS xs, (g (bodyS xs)).deep + 1⟩)
  else ⟨0, endS xs, 1⟩

/-- what follows j numbers whose values are so deep -/
def joinW (j d : Nat) (r : WR) : WR := if r.e ≠ 0 then ⟨r.e, j + r.pos, 0⟩ else ⟨0, j + r.pos, max d r.deep⟩

/-- value after value, each checked by f -/
def listW (f : List Int → WR) (xs : List Int) : WR :=
  if xs = [] then ⟨0, 0, 0⟩
  else if (f xs).e ≠ 0 then ⟨(f xs).e, (f xs).pos, 0⟩
  else if _h : 0 < (f xs).pos ∧ xs ≠ [] then joinW (f xs).pos (f xs).deep (listW f (xs.drop (f xs).pos))
  else ⟨0, 0, 0⟩
  termination_by xs.length
  decreasing_by
    have := List.length_pos_iff.2 _h.2
    rw [List.length_drop]
    omega

/-- a value below which there may be so many levels, it among them -/
def valW : Nat → List Int → WR
  | 0 => fun _ => ⟨6, 0, 0⟩
  | k + 1 => oneW (listW (valW k))

/-- the whole: the error and where, or the depth -/
def wellS (xs : List Int) : WR :=
  if (valW 32 xs).e ≠ 0 then ⟨(valW 32 xs).e, (valW 32 xs).pos, 0⟩
  else if (valW 32 xs).pos < xs.length then ⟨5, (valW 32 xs).pos, 0⟩
  else ⟨0, 0, (valW 32 xs).deep⟩

/-- the values one behind the other, each with its header -/
def partsS (xs : List Int) : List (List Int) :=
  if _h : xs ≠ [] ∧ 0 < endS xs then xs.take (endS xs) :: partsS (xs.drop (endS xs)) else []
  termination_by xs.length
  decreasing_by
    have := List.length_pos_iff.2 _h.1
    rw [List.length_drop]
    omega

theorem headE_ok {xs : List Int} (hu : U8 xs) (h : headE xs = 0) :
    (rd xs).2 = 0 ∧ HdOk (rd xs).1 ∧ 2 ≤ (rd xs).1.size ∧ (rd xs).1.size + (rd xs).1.len ≤ xs.length ∧ ¬ ((rd xs).1.cls = 0 ∧ (rd xs).1.tag = 0) ∧ rightS (rd xs).1 = true := by
  unfold headE at h
  split at h
  · rename_i h1; exact absurd h h1
  · rename_i h1
    have h1 : (rd xs).2 = 0 := by omega
    have hb := rd_bd xs hu h1
    split at h
    · cases h
    · rename_i h2
      split at h
      · cases h
      · rename_i h3
        split at h
        · cases h
        · rename_i h4
          exact ⟨h1, hb.1, hb.2.1, by omega, h2, by simpa using h3⟩

theorem ends_of {xs : List Int} (hu : U8 xs) (h : headE xs = 0) : 2 ≤ szS xs ∧ endS xs = szS xs + (bodyS xs).length ∧ endS xs ≤ xs.length := by
  obtain ⟨_, ⟨_, _, l0, _⟩, h2, h3, _⟩ := headE_ok hu h
  unfold szS bodyS endS szS
  rw [List.length_take, List.length_drop]
  omega
theorem bodyS_u8 {xs : List Int} (hu : U8 xs) : U8 (bodyS xs) := (hu.drop _).take _
theorem bodyS_le {xs : List Int} : szS xs + (bodyS xs).length ≤ xs.length ∨ (bodyS xs).length = 0 := by
  unfold bodyS
  rw [List.length_take, List.length_drop]
  omega

/-- answers that fit: no further than the numbers go, at least two of them for a value, no deeper than k -/
def Fit (k : Nat) (f : List Int → WR) : Prop := ∀ xs, U8 xs → (f xs).pos ≤ xs.length ∧ ((f xs).e = 0 → 2 ≤ (f xs).pos ∧ 1 ≤ (f xs).deep ∧ (f xs).deep ≤ k)

theorem listW_nil (f : List Int → WR) : listW f [] = ⟨0, 0, 0⟩ := by rw [listW]; simp
theorem listW_err {f : List Int → WR} {xs : List Int} (hx : xs ≠ []) (he : (f xs).e ≠ 0) : listW f xs = ⟨(f xs).e, (f xs).pos, 0⟩ := by rw [listW, if_neg hx, if_pos he]
theorem listW_on {f : List Int → WR} {xs : List Int} (hx : xs ≠ []) (he : (f xs).e = 0) (hp : 0 < (f xs).pos) : listW f xs = joinW (f xs).pos (f xs).deep (listW f (xs.drop (f xs).pos)) := by
  rw [listW, if_neg hx, if_neg (by simp [he]), dif_pos ⟨hp, hx⟩]

theorem listW_fit {k : Nat} {f : List Int → WR} (hf : Fit k f) : ∀ (n : Nat) (xs : List Int), xs.length ≤ n → U8 xs → (listW f xs).pos ≤ xs.length ∧ ((listW f xs).e = 0 → (listW f xs).pos = xs.length ∧ (listW f xs).deep ≤ k)
  | 0, xs, hn, hu => by
    have : xs = [] := List.eq_nil_of_length_eq_zero (by omega)
    subst this
    rw [listW_nil]; simp
  | n + 1, xs, hn, hu => by
    by_cases hx : xs = []
    · subst hx; rw [listW_nil]; simp
    · have h1 := hf xs hu
      by_cases he : (f xs).e = 0
      · have h2 := h1.2 he
        have hl := List.length_pos_iff.2 hx
        rw [listW_on hx he (by omega)]
        have ih := listW_fit hf n (xs.drop (f xs).pos) (by rw [List.length_drop]; omega) (hu.drop _)
        rw [List.length_drop] at ih
        unfold joinW
        split
        · dsimp only
          refine ⟨by omega, fun h => ?_⟩
          rename_i hne
          exact absurd h hne
        · rename_i hne
          have ih2 := ih.2 (by omega)
          dsimp only
          refine ⟨by omega, fun _ => ⟨by omega, by omega⟩⟩
      · rw [listW_err hx he]
        exact ⟨h1.1, fun h => absurd h he⟩

theorem oneW_fit {k : Nat} {f : List Int → WR} (hf : Fit k f) : Fit (k + 1) (oneW (listW f)) := fun xs hu => by
  have hb := listW_fit hf _ (bodyS xs) (Nat.le_refl _) (bodyS_u8 hu)
  have hB := @bodyS_le xs
  unfold oneW
  split
  · rename_i h
    exact ⟨Nat.zero_le _, fun he => absurd he h⟩
  · rename_i h
    have he := ends_of hu (by omega)
    split
    · split
      · rename_i h2
        exact ⟨by dsimp only; omega, fun he => absurd he h2⟩
      · rename_i h2
        have := hb.2 (by omega)
        dsimp only
        exact ⟨by omega, fun _ => ⟨by omega, by omega, by omega⟩⟩
    · dsimp only
      exact ⟨by omega, fun _ => ⟨by omega, by omega, by omega⟩⟩

theorem valW_fit : ∀ k, Fit k (valW k)
  | 0 => fun xs _ => ⟨Nat.zero_le _, fun h => by simp [valW] at h⟩
  | k + 1 => oneW_fit (valW_fit k)

theorem valW_bd (k : Nat) (xs : List Int) (hu : U8 xs) : (valW k xs).pos ≤ xs.length ∧ ((valW k xs).e = 0 → 2 ≤ (valW k xs).pos ∧ 1 ≤ (valW k xs).deep ∧ (valW k xs).deep ≤ k) := valW_fit k xs hu
theorem listW_bd (k : Nat) (xs : List Int) (hu : U8 xs) : (listW (valW k) xs).pos ≤ xs.length ∧ ((listW (valW k) xs).e = 0 → (listW (valW k) xs).pos = xs.length ∧ (listW (valW k) xs).deep ≤ k) := listW_fit (valW_fit k) _ xs (Nat.le_refl _) hu

theorem joinW_zero (r : WR) (h : r.e ≠ 0 → r.deep = 0) : joinW 0 0 r = r := by
  obtain ⟨e, p, d⟩ := r
  unfold joinW
  split
  · rename_i he; have := h he; dsimp only at this ⊢; subst this; simp
  · rename_i he; simp at he ⊢; exact he.symm
theorem joinW_joinW (j d j' d' : Nat) (r : WR) : joinW j d (joinW j' d' r) = joinW (j + j') (max d d') r := by
  unfold joinW
  by_cases h : r.e = 0
  · simp [h]; omega
  · simp [h]; omega
theorem listW_deep (f : List Int → WR) (xs : List Int) (h : (listW f xs).e ≠ 0) : (listW f xs).deep = 0 := by
  by_cases hx : xs = []
  · subst hx; rw [listW_nil]
  · by_cases he : (f xs).e = 0
    · by_cases hp : 0 < (f xs).pos
      · rw [listW_on hx he hp] at h ⊢
        unfold joinW at h ⊢
        split
        · rfl
        · rename_i h2; rw [if_neg h2] at h; exact absurd rfl h
      · rw [listW, if_neg hx, if_neg (by simp [he]), dif_neg (fun hh => hp hh.1)]
    · rw [listW_err hx he]

end Go.Proofs.Ytgjjncoelbhpeaa
