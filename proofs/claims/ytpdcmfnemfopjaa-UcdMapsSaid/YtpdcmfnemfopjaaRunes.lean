/- Contract of package api's runes: the scalars of a string, one by one. -/
import Derived.Test.YtpdcmfnemfopjaaIx
import Derived.Test.YtpdcmfnemfopjaaKeepInts
import Derived.Lib.OthersKept
namespace Go.Proofs.Ytpdcmfnemfopjaa
open Go.RowKit

/-- what ranging over a string gives from a place on, in so many steps -/
def runesAt (s : ByteArray) : Nat → Nat → List Int
  | 0, _ => []
  | f + 1, p => if p < s.size then (Utf8.decode s p).1 :: runesAt s f (p + (Utf8.decode s p).2) else []
def runesS (s : ByteArray) : List Int := runesAt s s.size 0

theorem width_pos (s : ByteArray) (p : Nat) (h : p < s.size) : 1 ≤ (Utf8.decode s p).2 := by
  by_cases ha : (s[p]'h).toNat < 128
  · rw [decode_ascii s p h ha]
    exact Nat.le_refl _
  · exact (decode_high s p h (by omega)).2

theorem runesAt_end {s : ByteArray} {f p : Nat} (h : ¬ p < s.size) : runesAt s f p = [] := by
  cases f with
  | zero => rfl
  | succ f => simp [runesAt, h]

theorem runesAt_next {s : ByteArray} {f p : Nat} (h : p < s.size) (hf : s.size ≤ p + f) : runesAt s f p = ((Utf8.decode s p).1 : Int) :: runesAt s (f - 1) (p + (Utf8.decode s p).2) := by
  cases f with
  | zero => omega
  | succ f => simp [runesAt, h]

/-- an owned slice when an iterator moves on -/
theorem Own.iterAt {k : IntKind} {e base : Nat} {w : World} {v : Value} {xs : List Int} (h : Own k e base w v xs) {K : Nat} {s : ByteArray} {p q : Nat} (hk : w.heap[K]? = some (.stringIter s p)) : Own k e base (w.iterAt K s q) v xs := by
  obtain ⟨h1, h2⟩ := h
  refine ⟨h1, ?_⟩
  rcases h2 with ⟨rfl, hn⟩ | ⟨g, cap, cur, rfl, hb, hg, hr⟩
  · exact .inl ⟨rfl, hn⟩
  · have hne : g ≠ K := fun he => by rw [he, hk] at hg; simp at hg
    exact .inr ⟨g, cap, cur, rfl, hb, (Lib.iterAt_other _ _ _ _ _ hne).trans hg, hr⟩

theorem Own.notIter {k : IntKind} {e base : Nat} {w : World} {v : Value} {xs : List Int} (h : Own k e base w v xs) {K : Nat} {s : ByteArray} {p : Nat} (hk : w.heap[K]? = some (.stringIter s p)) : some K ≠ v.ownBlock := by
  obtain ⟨h1, h2⟩ := h
  rcases h2 with ⟨rfl, hn⟩ | ⟨g, cap, cur, rfl, hb, hg, hr⟩
  · simp [Value.ownBlock]
  · intro he
    simp only [Value.ownBlock, Option.some.injEq] at he
    rw [← he, hk] at hg
    simp at hg

set_option maxHeartbeats 2000000 in
theorem apiRunes (s : ByteArray) (w : World) (hs : s.size ≤ 1000000) :
    Calls Try.prog 53 #[.string s] w fun e w' => ∃ v, e = .returned v ∧ Own .i64 3 w.heap.size w' v (runesS s) ∧ Below w.heap.size w w' := by
  go_enter Try.func53, Try.ntmps53
  go_wp2
  go_loopw [3] (fun lv wr => ∃ (p f : Nat) (xs : List Int), Hid (wr.heap[w.heap.size]? = some (.stringIter s p)) ∧ Hid (Own .i64 3 w.heap.size wr lv xs) ∧ Hid (runesS s = xs ++ runesAt s f p) ∧ s.size ≤ p + f ∧ xs.length ≤ p ∧ Hid (Below w.heap.size w wr)) (fun _ wr => s.size - wr.iterPos w.heap.size)
  case atStart => exact ⟨0, s.size, [], World.iter_heap w s 0, Own.nil _ _ _ _, rfl, by omega, by simp, by unfold World.iter; (repeat (first | exact Below.refl _ _ | exact below_drewN _ | refine Below.drew ?_ | refine Below.alloc ?_ (by simp) _ | refine Below.setCell ?_ (by simp) _ | refine below_drewN' ?_ _))⟩
  case round =>
    obtain ⟨p, f, xs, hit, hown, hrun, hf, hlen, hbel⟩ := hrel
    obtain ⟨al, cl, hal⟩ := hown.out.sl.form
    subst hal
    have hsz : w.heap.size < wr.heap.size := (Array.getElem?_eq_some_iff.1 hit.out).1
    by_cases hp : p < s.size
    · have ip : Hid (wr.iterPos w.heap.size = p) := hid (by unfold World.iterPos; rw [hit.out])
      have hnx := fun ty => Lib.run_next_any_at (P := Try.prog) wr w.heap.size s p ty hit.out hp
      have hw := width_pos s p hp
      have hle := decode_le s p
      have hrun2 := hid (hrun.out.trans (by rw [runesAt_next hp hf]))
      have hit2 := hid (Lib.iterAt_heap wr w.heap.size s p (p + (Utf8.decode s p).2) hit.out)
      have hown2 := hid (hown.out.iterAt (q := p + (Utf8.decode s p).2) hit.out)
      have hbel2 := hid (Lib.below_iterAt hbel.out (Nat.le_refl _) s (p + (Utf8.decode s p).2))
      have hsz2 : w.heap.size < (wr.iterAt w.heap.size s (p + (Utf8.decode s p).2)).heap.size := by rw [Lib.iterAt_size]; exact hsz
      generalize wr.iterAt w.heap.size s (p + (Utf8.decode s p).2) = w2 at hnx hit2 hown2 hbel2 hsz2
      have hrun3 := hrun2.out
      clear hrun2 hrun
      generalize Utf8.decode s p = q at hnx hit2 hbel2 hw hle hrun3
      obtain ⟨c, d⟩ := q
      simp only at hnx hit2 hbel2 hw hle hrun3
      have hrun2 := hid hrun3
      clear hrun3
      clear hit hown
      go_wp2_with (at_builtin; go_loud (refine wpList_app _ rfl _ _ 29 rfl .i64 w.heap.size 3 8 Try.underlying29 Try.infoI64 _ xs [(c : Int)] rfl (hown2.out.below (by (repeat (first | exact Below.refl _ _ | exact below_drewN _ | refine Below.drew ?_ | refine Below.alloc ?_ (by simp) _ | refine Below.setCell ?_ (by simp) _ | refine below_drewN' ?_ _)))) _ rfl (one_sl (by first | simp | rfl)) (by unfold maxLen; first | omega | (simp; omega) | simp) (by first | omega | (simp; omega) | simp) (by first | omega | (simp; omega) | simp) ?_); intro v5 w5 ho5 hg5 hb5 hn5; clear hn5)
      have hit3 : (w2.alloc (.cells #[.int .i64 (c : Int)] 3)).heap[w.heap.size]? = some (.stringIter s (p + d)) := (Go.Lib.alloc_old w2 _ _ hsz2).trans hit2.out
      have hit5 : w5.heap[w.heap.size]? = some (.stringIter s (p + d)) := (hg5.block _ (by simp; omega) ((hown2.out.alloc _).notIter hit3)).trans hit3
      have ip5 : w5.iterPos w.heap.size = p + d := by unfold World.iterPos; rw [hit5]
      clear hg5
      go_roundw
      case rel =>
        refine ⟨p + d, f - 1, xs ++ [(c : Int)], hit5, ho5, ?_, by omega, by simp; omega, hbel2.out.trans (Below.trans ?_ hb5)⟩
        · show _ = _
          rw [hrun2.out, List.append_assoc]
          rfl
        · (repeat (first | exact Below.refl _ _ | exact below_drewN _ | refine Below.drew ?_ | refine Below.alloc ?_ (by first | omega | (simp; done) | (simp; omega)) _ | refine Below.setCell ?_ (by first | (simp; done) | (simp; omega)) _ | refine below_drewN' ?_ _))
      case measure =>
        rw [ip5, ip.out]
        omega
    · have hnx := fun ty => Lib.run_next_end_at (P := Try.prog) wr w.heap.size s p ty hit.out hp
      have hrun2 := hid (hrun.out.trans (by rw [runesAt_end hp, List.append_nil]))
      go_wp2
      go_ret
      exact ⟨_, rfl, by rw [hrun2.out]; exact hown.out, hbel.out⟩
end Go.Proofs.Ytpdcmfnemfopjaa
