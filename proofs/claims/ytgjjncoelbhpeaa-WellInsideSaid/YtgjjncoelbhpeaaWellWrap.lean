/- What checking a wrapped content answers. No conditions. -/
import Derived.Test.YtgjjncoelbhpeaaWellMath
import Derived.Test.YtgjjncoelbhpeaaTlvOne
namespace Go.Proofs.Ytgjjncoelbhpeaa
open Go.RowKit

/-- a content behind its header -/
def wrapL (c t : Int) (b : Bool) (xs : List Int) : List Int := hdB ⟨c, t, b, xs.length, 0⟩ ++ xs
def hdN (c t : Int) (b : Bool) (n : Nat) : Nat := (hdB ⟨c, t, b, n, 0⟩).length

section
variable {c t : Int} {b : Bool} {xs : List Int}

theorem wrap_rd (hok : HdOk ⟨c, t, b, xs.length, 0⟩) : rd (wrapL c t b xs) = (⟨c, t, b, xs.length, (hdN c t b xs.length : Nat)⟩, 0) := rd_back _ xs hok
theorem wrap_len : (wrapL c t b xs).length = hdN c t b xs.length + xs.length := by unfold wrapL hdN; rw [List.length_append]
theorem wrap_sz (hok : HdOk ⟨c, t, b, xs.length, 0⟩) : szS (wrapL c t b xs) = hdN c t b xs.length := by
  unfold szS; rw [wrap_rd hok]; exact Int.toNat_natCast _
theorem wrap_body (hok : HdOk ⟨c, t, b, xs.length, 0⟩) : bodyS (wrapL c t b xs) = xs := by
  unfold bodyS
  rw [wrap_sz hok, wrap_rd hok]
  show ((wrapL c t b xs).drop _).take ((xs.length : Int).toNat) = xs
  rw [Int.toNat_natCast]
  unfold wrapL hdN
  rw [List.drop_left, List.take_of_length_le (Nat.le_refl _)]
theorem wrap_end (hok : HdOk ⟨c, t, b, xs.length, 0⟩) : endS (wrapL c t b xs) = (wrapL c t b xs).length := by
  unfold endS
  rw [wrap_rd hok, wrap_len]
  show ((hdN c t b xs.length : Int) + (xs.length : Int)).toNat = _
  omega
theorem wrap_head (hok : HdOk ⟨c, t, b, xs.length, 0⟩) :
    headE (wrapL c t b xs) = if c = 0 ∧ t = 0 then 3 else if rightS ⟨c, t, b, 0, 0⟩ = false then 7 else 0 := by
  unfold headE
  rw [wrap_rd hok, if_neg (by simp)]
  show (if c = 0 ∧ t = 0 then (3 : Int) else if rightS ⟨c, t, b, xs.length, (hdN c t b xs.length : Nat)⟩ = false then 7 else if ((wrapL c t b xs).length : Int) - (hdN c t b xs.length : Nat) < xs.length then 2 else 0) = _
  rw [if_neg (show ¬ (((wrapL c t b xs).length : Int) - (hdN c t b xs.length : Nat) < xs.length) by rw [wrap_len]; omega)]
  rfl
theorem wrap_u8 (hok : HdOk ⟨c, t, b, xs.length, 0⟩) (hu : U8 xs) : U8 (wrapL c t b xs) := (u8_hdB hok).append hu
theorem wrap_cons (hok : HdOk ⟨c, t, b, xs.length, 0⟩) : (rd (wrapL c t b xs)).1.cons = b := by rw [wrap_rd hok]
theorem hdN_bd (hok : HdOk ⟨c, t, b, xs.length, 0⟩) (hu : U8 xs) : 2 ≤ hdN c t b xs.length ∧ hdN c t b xs.length ≤ 12 := by
  have h1 := (rd_bd (wrapL c t b xs) (wrap_u8 hok hu) (by rw [wrap_rd hok])).2.1
  rw [wrap_rd hok] at h1
  have h2 := hdB_len hok
  exact ⟨by dsimp only at h1; omega, h2⟩

theorem wrap_one (hok : HdOk ⟨c, t, b, xs.length, 0⟩) : oneS (wrapL c t b xs) = (⟨c, t, b, xs.length, (hdN c t b xs.length : Nat)⟩, xs, [], 0) := by
  rw [oneS_of (wrap_rd hok) (by rw [wrap_len]; dsimp only; omega)]
  have e1 := wrap_body hok
  unfold bodyS at e1
  rw [wrap_sz hok, wrap_rd hok] at e1
  have e2 : (wrapL c t b xs).drop ((hdN c t b xs.length : Int) + (xs.length : Int)).toNat = [] := List.drop_eq_nil_of_le (by rw [wrap_len]; omega)
  show ((⟨c, t, b, xs.length, (hdN c t b xs.length : Nat)⟩ : Hd), ((wrapL c t b xs).drop ((hdN c t b xs.length : Int)).toNat).take ((xs.length : Int)).toNat, (wrapL c t b xs).drop ((hdN c t b xs.length : Int) + (xs.length : Int)).toNat, (0 : Int)) = _
  rw [e2, Int.toNat_natCast]
  exact congrArg (fun z => ((⟨c, t, b, xs.length, (hdN c t b xs.length : Nat)⟩ : Hd), z, ([] : List Int), (0 : Int))) e1

/-- a leaf -/
theorem wrap_leaf (hok : HdOk ⟨c, t, false, xs.length, 0⟩) (hh : headE (wrapL c t false xs) = 0) (k : Nat) : valW (k + 1) (wrapL c t false xs) = ⟨0, (wrapL c t false xs).length, 1⟩ := by
  show oneW _ _ = _
  rw [oneW_leaf hh (by rw [wrap_cons hok]; simp), wrap_end hok]
/-- what has parts -/
theorem wrap_in (hok : HdOk ⟨c, t, true, xs.length, 0⟩) (hh : headE (wrapL c t true xs) = 0) (k : Nat) :
    valW (k + 1) (wrapL c t true xs) = if (listW (valW k) xs).e ≠ 0 then ⟨(listW (valW k) xs).e, hdN c t true xs.length + (listW (valW k) xs).pos, 0⟩ else ⟨0, (wrapL c t true xs).length, (listW (valW k) xs).deep + 1⟩ := by
  show oneW _ _ = _
  rw [oneW_in hh (wrap_cons hok), wrap_body hok, wrap_sz hok, wrap_end hok]
end

theorem wellS_of {xs : List Int} {p d : Nat} (h : valW 32 xs = ⟨0, p, d⟩) (hp : p = xs.length) : wellS xs = ⟨0, 0, d⟩ := by
  unfold wellS
  rw [h, if_neg (by simp)]
  dsimp only
  rw [if_neg (by omega)]
theorem wellS_bad {xs : List Int} {e : Int} {p d : Nat} (h : valW 32 xs = ⟨e, p, d⟩) (he : e ≠ 0) : wellS xs = ⟨e, p, 0⟩ := by
  unfold wellS
  rw [h, if_pos he]

/-- an empty content -/
theorem well_empty {c t : Int} {b : Bool} (hok : HdOk ⟨c, t, b, ([] : List Int).length, 0⟩) :
    wellS (wrapL c t b []) = if c = 0 ∧ t = 0 then ⟨3, 0, 0⟩ else if rightS ⟨c, t, b, 0, 0⟩ = false then ⟨7, 0, 0⟩ else ⟨0, 0, 1⟩ := by
  have hh := wrap_head hok
  split at hh
  · rename_i h
    rw [if_pos h]
    exact wellS_bad (d := 0) (by show oneW _ _ = _; rw [oneW_bad (by rw [hh]; decide), hh]) (by decide)
  · rename_i h
    rw [if_neg h]
    split at hh
    · rename_i h1
      rw [if_pos h1]
      exact wellS_bad (d := 0) (by show oneW _ _ = _; rw [oneW_bad (by rw [hh]; decide), hh]) (by decide)
    · rename_i h1
      rw [if_neg h1]
      cases b
      · exact wellS_of (wrap_leaf hok hh 31) rfl
      · have := wrap_in hok hh 31
        rw [listW_nil, if_neg (by simp)] at this
        exact wellS_of this rfl

end Go.Proofs.Ytgjjncoelbhpeaa
