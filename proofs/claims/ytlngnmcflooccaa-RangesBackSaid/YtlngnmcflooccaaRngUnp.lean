/- Plain facts of unpacking: the ranges of the first numbers, one number more. No conditions. -/
import Derived.Test.YtlngnmcflooccaaRngPack
namespace Go.Proofs.Ytlngnmcflooccaa

/-- what an unpacked table says, told by its two rows -/
def getN (ix bl : List Int) (c : Nat) : Int := bl.getD (256 * (ix.getD (c / 256) 0).toNat + c % 256) 0
def unpOk (ix bl : List Int) : Prop := ix.length = 4352 ∧ bl.length % 256 = 0 ∧ (∀ i, i < bl.length → 0 ≤ bl.getD i 0 ∧ bl.getD i 0 ≤ 65535) ∧ (∀ k, k < ix.length → 0 ≤ ix.getD k 0 ∧ ix.getD k 0 < (bl.length / 256 : Nat))
open Classical in
noncomputable def unpackS (ix bl : List Int) : Option (List Rg) := if unpOk ix bl ∧ (rle (getN ix bl) 1114112).length ≤ 2000 then some (rle (getN ix bl) 1114112) else none
theorem unpackS_none {ix bl : List Int} (h : ¬ (unpOk ix bl ∧ (rle (getN ix bl) 1114112).length ≤ 2000)) : unpackS ix bl = none := by unfold unpackS; rw [if_neg h]
theorem unpackS_some {ix bl : List Int} (h : unpOk ix bl) (h2 : (rle (getN ix bl) 1114112).length ≤ 2000) : unpackS ix bl = some (rle (getN ix bl) 1114112) := by unfold unpackS; rw [if_pos ⟨h, h2⟩]
theorem rleStep_len (l : List Rg) (c : Nat) (v : Int) : l.length ≤ (rleStep l c v).length := by
  unfold rleStep
  split
  · exact Nat.le_refl _
  · split
    · rename_i r hr
      split
      · have := congrArg List.length (last_split hr)
        rw [List.length_append] at this ⊢
        simp only [List.length_cons, List.length_nil] at this ⊢
        omega
      · rw [List.length_append]; omega
    · rename_i hr
      rw [List.getLast?_eq_none_iff.1 hr]
      simp
theorem rle_mono (g : Nat → Int) {n : Nat} : ∀ {m : Nat}, n ≤ m → (rle g n).length ≤ (rle g m).length
  | 0, h => by
    obtain rfl : n = 0 := by omega
    exact Nat.le_refl _
  | m + 1, h => by
    rcases Nat.lt_or_ge n (m + 1) with h1 | h1
    · exact Nat.le_trans (rle_mono g (show n ≤ m by omega)) (rleStep_len _ _ _)
    · obtain rfl : n = m + 1 := by omega
      exact Nat.le_refl _
/-- the list as it stands behind c numbers: the fewest ranges, or too many -/
def URp (g : Nat → Int) (c : Nat) (l : List Rg) : Prop := l.length ≤ c ∧ (l = rle g c ∨ (2001 < l.length ∧ 2001 < (rle g c).length))
theorem URp.zero {g : Nat → Int} {c : Nat} {l : List Rg} (h : URp g c l) (hz : g c = 0) : URp g (c + 1) l := by
  refine ⟨by have := h.1; omega, ?_⟩
  have e : rle g (c + 1) = rle g c := by rw [rle, rleStep, if_pos hz]
  rw [e]
  exact h.2
theorem URp.skip {g : Nat → Int} {c d : Nat} {l : List Rg} (h : URp g c l) (hl : 2001 < l.length) (hd : c ≤ d) : URp g d l := by
  refine ⟨by have := h.1; omega, .inr ⟨hl, ?_⟩⟩
  have := rle_mono g hd
  rcases h.2 with h2 | h2
  · rw [h2] at hl; omega
  · omega
theorem snoc_rg {l : List Rg} (h : 0 < l.length) : l = l.take (l.length - 1) ++ [l.getD (l.length - 1) noRg] := by
  have := take_rg (l := l) (i := l.length - 1) (by omega)
  rw [show l.length - 1 + 1 = l.length by omega, List.take_length] at this
  exact this
theorem URp.ext {g : Nat → Int} {c : Nat} {l : List Rg} (h : URp g c l) (hz : g c ≠ 0) (hl : 0 < l.length) (ht : (l.getD (l.length - 1) noRg).t = (c : Int) - 1) (hv : (l.getD (l.length - 1) noRg).v = g c) :
    URp g (c + 1) (l.set (l.length - 1) ⟨(l.getD (l.length - 1) noRg).f, c, (l.getD (l.length - 1) noRg).v⟩) := by
  refine ⟨by rw [List.length_set]; have := h.1; omega, ?_⟩
  rw [List.length_set]
  rcases h.2 with h2 | h2
  · left
    have hs := snoc_rg hl
    rw [rle, ← h2]
    generalize l.getD (l.length - 1) noRg = r at hs ht hv ⊢
    generalize hd : l.take (l.length - 1) = d at hs
    have hdl : d.length = l.length - 1 := by rw [← hd, List.length_take]; omega
    unfold rleStep
    rw [if_neg hz]
    have hlast : l.getLast? = some r := by rw [hs]; simp
    rw [hlast]
    simp only
    rw [if_pos ⟨ht, hv⟩, ← hv, ← hdl]
    conv => lhs; rw [hs]
    rw [hs]
    simp
  · right
    exact ⟨h2.1, Nat.lt_of_lt_of_le h2.2 (rle_mono g (by omega))⟩
theorem URp.app {g : Nat → Int} {c : Nat} {l : List Rg} (h : URp g c l) (hz : g c ≠ 0) (hn : ¬ (0 < l.length ∧ (l.getD (l.length - 1) noRg).t = (c : Int) - 1 ∧ (l.getD (l.length - 1) noRg).v = g c)) :
    URp g (c + 1) (l ++ [⟨c, c, g c⟩]) := by
  refine ⟨by rw [List.length_append]; have := h.1; simp only [List.length_cons, List.length_nil]; omega, ?_⟩
  rcases h.2 with h2 | h2
  · left
    rw [rle, ← h2]
    unfold rleStep
    rw [if_neg hz]
    rcases Nat.eq_zero_or_pos l.length with h0 | h0
    · rw [List.eq_nil_of_length_eq_zero h0]; rfl
    · have hs := snoc_rg h0
      have hlast : l.getLast? = some (l.getD (l.length - 1) noRg) := by
        conv => lhs; rw [hs]
        simp
      rw [hlast]
      simp only
      rw [if_neg (fun hx => hn ⟨h0, hx⟩)]
  · right
    refine ⟨by rw [List.length_append]; omega, Nat.lt_of_lt_of_le h2.2 (rle_mono g (by omega))⟩
theorem URp.done {g : Nat → Int} {c : Nat} {l : List Rg} (h : URp g c l) : (l.length ≤ 2000 ↔ (rle g c).length ≤ 2000) ∧ (l.length ≤ 2000 → l = rle g c) := by
  rcases h.2 with h2 | h2
  · exact ⟨by rw [← h2], fun _ => h2⟩
  · exact ⟨by omega, fun hx => by omega⟩
end Go.Proofs.Ytlngnmcflooccaa
