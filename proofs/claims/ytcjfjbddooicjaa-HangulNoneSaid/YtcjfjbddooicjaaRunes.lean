/- Contract of package api's runes: the scalars of a string, one by one. -/
import Derived.Test.YtcjfjbddooicjaaIx
import Derived.Test.YtcjfjbddooicjaaKeepInts
import Derived.Lib.OthersKept
namespace Go.Proofs.Ytcjfjbddooicjaa
open Go.RowKit

/-- what ranging over a string gives from a place on, in so many steps -/
def runesAt (s : ByteArray) : Nat → Nat → List Int
  | 0, _ => []
  | f + 1, p => if p < s.size then (Utf8.decode s p).1 :: runesAt s f (p + (Utf8.decode s p).2) else []
def runesS (s : ByteArray) : List Int := runesAt s s.size 0

theorem width_pos (s : ByteArray) (p : Nat) (h : p < s.size) : 1 ≤ (Utf8.decode s p).2 := by
  by_cases ha : (s[p]'h).toNat < 128
  · rw [decode_ascii s p h ha]
    exact Nat.le_refl _
  · exact (decode_high s p h (by omega)).2

theorem runesAt_end {s : ByteArray} {f p : Nat} (h : ¬ p < s.size) : runesAt s f p = [] := by
  cases f with
  | zero => rfl
  | succ f => simp [runesAt, h]

theorem runesAt_next {s : ByteArray} {f p : Nat} (h : p < s.size) (hf : s.size ≤ p + f) : runesAt s f p = ((Utf8.decode s p).1 : Int) :: runesAt s (f - 1) (p + (Utf8.decode s p).2) := by
  cases f with
  | zero => omega
  | succ f => simp [runesAt, h]

/-- an owned slice when an iterator moves on -/
theorem Own.iterAt {k : IntKind} {e base : Nat} {w : World} {v : Value} {xs : List Int} (h : Own k e base w v xs) {K : Nat} {s : ByteArray} {p q : Nat} (hk : w.heap[K]? = some (.stringIter s p)) : Own k e base (w.iterAt K s q) v xs := by
  obtain ⟨h1, h2⟩ := h
  refine ⟨h1, ?_⟩
  rcases h2 with ⟨rfl, hn⟩ | ⟨g, cap, cur, rfl, hb, hg, hr⟩
  · exact .inl ⟨rfl, hn⟩
  · have hne : g ≠ K := fun he => by rw [he, hk] at hg; simp at hg
    exact .inr ⟨g, cap, cur, rfl, hb, (Lib.iterAt_other _ _ _ _ _ hne).trans hg, hr⟩

theorem Own.notIter {k : IntKind} {e base : Nat} {w : World} {v : Value} {xs : List Int} (h : Own k e base w v xs) {K : Nat} {s : ByteArray} {p : Nat} (hk : w.heap[K]? = some (.stringIter s p)) : some K ≠ v.ownBlock := by
  obtain ⟨h1, h2⟩ := h
  rcases h2 with ⟨rfl, hn⟩ | ⟨g, cap, cur, rfl, hb, hg, hr⟩
  · simp [Value.ownBlock]
  · intro he
    simp only [Value.ownBlock, Option.some.injEq] at he
    rw [← he, hk] at hg
    simp at hg

end Go.Proofs.Ytcjfjbddooicjaa
