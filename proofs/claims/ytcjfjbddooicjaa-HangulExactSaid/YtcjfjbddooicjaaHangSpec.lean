/- Hangul syllables, plainly: what one splits to, what two join to. No conditions. -/
import Derived.Test.YtcjfjbddooicjaaBase
namespace Go.Proofs.Ytcjfjbddooicjaa
open Go.RowKit

/-- the syllable of the number n comes apart so -/
def partsN (n : Nat) : List Int := if n % 28 = 0 then [4352 + (n : Int) / 588, 4449 + (n : Int) % 588 / 28] else [4352 + (n : Int) / 588, 4449 + (n : Int) % 588 / 28, 4519 + (n : Int) % 28]
def splitS (c : Int) : List Int := if 44032 ≤ c ∧ c ≤ 55203 then partsN (c - 44032).toNat else []
def joinS (a b : Int) : Int × Bool :=
  if 4352 ≤ a ∧ a ≤ 4370 ∧ 4449 ≤ b ∧ b ≤ 4469 then (44032 + ((a - 4352) * 21 + (b - 4449)) * 28, true)
  else if 44032 ≤ a ∧ a ≤ 55203 ∧ (a - 44032) % 28 = 0 ∧ 4520 ≤ b ∧ b ≤ 4546 then (a + b - 4519, true) else (0, false)
theorem splitS_in {n : Nat} (h : n ≤ 11171) : splitS (44032 + (n : Int)) = partsN n := by
  unfold splitS
  rw [if_pos (by omega), show (44032 + (n : Int) - 44032).toNat = n by omega]
theorem splitS_out {c : Int} (h : ¬ (44032 ≤ c ∧ c ≤ 55203)) : splitS c = [] := by
  unfold splitS
  rw [if_neg h]
theorem join_lv {l v : Nat} (hl : l < 19) (hv : v < 21) : joinS (4352 + (l : Int)) (4449 + (v : Int)) = (44032 + (((21 * l + v) * 28 : Nat) : Int), true) := by
  unfold joinS
  rw [if_pos (by omega)]
  congr 1
  omega
theorem join_lvt {m t : Nat} (hm : m < 399) (ht : 1 ≤ t) (h2 : t < 28) : joinS (44032 + ((m * 28 : Nat) : Int)) (4519 + (t : Int)) = (44032 + ((m * 28 + t : Nat) : Int), true) := by
  unfold joinS
  rw [if_neg (by omega), if_pos (by omega)]
  congr 1
  omega
/-- joining what a syllable splits to restores it -/
theorem join_back {n : Nat} (h : n ≤ 11171) : joinS (4352 + (n : Int) / 588) (4449 + (n : Int) % 588 / 28) = (44032 + ((n / 28 * 28 : Nat) : Int), true) := by
  have := join_lv (l := n / 588) (v := n % 588 / 28) (by omega) (by omega)
  rw [show 4352 + (n : Int) / 588 = 4352 + ((n / 588 : Nat) : Int) by omega, show 4449 + (n : Int) % 588 / 28 = 4449 + ((n % 588 / 28 : Nat) : Int) by omega, this]
  congr 2
  omega
theorem join_back2 {n : Nat} (h : n ≤ 11171) (ht : n % 28 ≠ 0) : joinS (44032 + ((n / 28 * 28 : Nat) : Int)) (4519 + (n : Int) % 28) = (44032 + (n : Int), true) := by
  have := join_lvt (m := n / 28) (t := n % 28) (by omega) (by omega) (by omega)
  rw [show 4519 + (n : Int) % 28 = 4519 + ((n % 28 : Nat) : Int) by omega, this]
  congr 2
  omega
/-- what three letters make splits to them -/
theorem parts_lvt {l v t : Nat} (hv : v < 21) (ht : t < 28) : partsN ((21 * l + v) * 28 + t) = if t = 0 then [4352 + (l : Int), 4449 + (v : Int)] else [4352 + (l : Int), 4449 + (v : Int), 4519 + (t : Int)] := by
  unfold partsN
  have e1 : ((21 * l + v) * 28 + t) % 28 = t := by omega
  have e2 : (((21 * l + v) * 28 + t : Nat) : Int) / 588 = (l : Int) := by omega
  have e3 : (((21 * l + v) * 28 + t : Nat) : Int) % 588 / 28 = (v : Int) := by omega
  have e4 : (((21 * l + v) * 28 + t : Nat) : Int) % 28 = (t : Int) := by omega
  rw [e1, e2, e3, e4]
/-- nothing is joined to a syllable that has a trailing letter -/
theorem join_full {n : Nat} (h : n ≤ 11171) (ht : n % 28 ≠ 0) (b : Int) : joinS (44032 + (n : Int)) b = (0, false) := by
  unfold joinS
  rw [if_neg (by omega), if_neg (by omega)]
theorem join_none {a b : Int} (h1 : ¬ (4352 ≤ a ∧ a ≤ 4370)) (h2 : ¬ (44032 ≤ a ∧ a ≤ 55203)) : joinS a b = (0, false) := by
  unfold joinS
  rw [if_neg (by omega), if_neg (by omega)]
end Go.Proofs.Ytcjfjbddooicjaa
