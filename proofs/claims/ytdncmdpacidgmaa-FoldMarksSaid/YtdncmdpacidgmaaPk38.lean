/- Several texts in one: RowI. -/
import Derived.Test.YtdncmdpacidgmaaPk3
import Derived.Test.YtdncmdpacidgmaaPk5
/-! RowI -/
namespace Go.Proofs.Ytdncmdpacidgmaa
open Go.RowKit

/-- block g holds the numbers xs and then rest; all other blocks are as they were in w -/
def RowI (g : Nat) (rest : List Value) (w : World) (xs : List Int) (wr : World) : Prop :=
  Box 3 (xs.map (Value.int .i64) ++ rest) g wr ∧ w.grownBy wr (some g)
theorem RowI.of_own {base g n cap : Nat} {w : World} {xs : List Int} (h : Own .i64 3 base w (.slice (some ⟨g, 0, none⟩) n cap) xs) : ∃ rest, RowI g rest w xs w ∧ base ≤ g ∧ n = xs.length ∧ cap = n + rest.length ∧ cap ≤ maxLen := by
  obtain ⟨h1, h2⟩ := h
  rcases h2 with ⟨h2, _⟩ | ⟨g', cap', cur, hv, hb, hg, hn, hm, hs, ht⟩
  · cases h2
  · cases hv
    refine ⟨cur.toList.drop (xs.length * 1), ⟨?_, rfl, rfl, rfl, Nat.le_refl _, fun _ _ _ => rfl⟩, hb, rfl, ?_, hm⟩
    · show w.heap[g]? = _
      rw [hg, ← ht, List.take_append_drop]
    · have hd : (cur.toList.drop (xs.length * 1)).length = cur.size - xs.length * 1 := by rw [List.length_drop]; rfl
      rw [hd, hs]
      omega
theorem RowI.own {g : Nat} {rest : List Value} {w wr : World} {xs : List Int} (h : RowI g rest w xs wr) {base cap : Nat} (hb : base ≤ g) (hc : cap = xs.length + rest.length) (hm : cap ≤ maxLen) : Own .i64 3 base wr (.slice (some ⟨g, 0, none⟩) xs.length cap) xs := by
  refine ⟨by simp, .inr ⟨g, cap, _, rfl, hb, h.1, by omega, hm, ?_, ?_⟩⟩
  · simp [hc]
  · simp
theorem RowI.at {g : Nat} {rest : List Value} {w wr : World} {xs : List Int} (h : RowI g rest w xs wr) {i : Nat} (hi : i < xs.length) : wr.cell? ⟨g, i, none⟩ = some (.int .i64 (xs.getD i 0)) := by
  rw [h.1.cell i, List.getElem?_append_left (by simpa using hi), List.getElem?_map, List.getElem?_eq_getElem hi, List.getD_eq_getElem?_getD, List.getElem?_eq_getElem hi]
  rfl
theorem RowI.at0 {g : Nat} {rest : List Value} {w wr : World} {xs : List Int} (h : RowI g rest w xs wr) {i : Nat} (hi : i < xs.length) : wr.cell? ⟨g, 0 + i, none⟩ = some (.int .i64 (xs.getD i 0)) := by
  rw [Nat.zero_add]
  exact h.at hi
theorem RowI.ice {g : Nat} {rest : List Value} {w wr : World} {xs : List Int} (h : RowI g rest w xs wr) (i : Nat) : wr.frozen? ⟨g, i, none⟩ = false := h.1.ice i
theorem RowI.set {g : Nat} {rest : List Value} {w wr : World} {xs : List Int} (h : RowI g rest w xs wr) {i : Nat} (hi : i < xs.length) (x : Int) : RowI g rest w (xs.set i x) (wr.setCell ⟨g, i, none⟩ (.int .i64 x)) := by
  refine ⟨?_, grow_set1 h.2 i _⟩
  have := h.1.set i (.int .i64 x)
  rw [List.set_append_left _ _ (by simpa using hi), ← List.map_set] at this
  exact this
theorem RowI.drewN {g : Nat} {rest : List Value} {w wr : World} {xs : List Int} (h : RowI g rest w xs wr) (n : Nat) : RowI g rest w xs (wr.drewN n) :=
  ⟨h.1, ⟨h.2.os, h.2.tape, h.2.output, h.2.size, h.2.block⟩⟩
theorem RowI.drew {g : Nat} {rest : List Value} {w wr : World} {xs : List Int} (h : RowI g rest w xs wr) : RowI g rest w xs wr.drew := h.drewN 1
theorem RowI.lt {g : Nat} {rest : List Value} {w wr : World} {xs : List Int} (h : RowI g rest w xs wr) : g < wr.heap.size := h.1.lt
theorem RowI.below {g : Nat} {rest : List Value} {w wr w2 : World} {xs : List Int} (h : RowI g rest w xs wr) (hb : Below wr.heap.size wr w2) : RowI g rest w xs w2 :=
  ⟨h.1.below hb h.1.lt, ⟨hb.os.trans h.2.os, hb.tape.trans h.2.tape, hb.output.trans h.2.output, Nat.le_trans h.2.size hb.size, fun k hk hn => (hb.block k (Nat.lt_of_lt_of_le hk h.2.size)).trans (h.2.block k hk hn)⟩⟩
theorem RowI.swap {g : Nat} {rest : List Value} {w wr : World} {xs : List Int} (h : RowI g rest w xs wr) {i j : Nat} (hi : i < xs.length) (hj : j < xs.length) (x y : Int) : RowI g rest w ((xs.set i x).set j y) ((wr.setCell ⟨g, i, none⟩ (.int .i64 x)).setCell ⟨g, j, none⟩ (.int .i64 y)) :=
  (h.set hi x).set (by rw [List.length_set]; exact hj) y
/-- what lies below the row has not changed -/
theorem RowI.behind {g : Nat} {rest : List Value} {w wr : World} {xs : List Int} (h : RowI g rest w xs wr) {w0 : World} {B : Nat} (hb : Below B w0 w) (hg : B ≤ g) (hB : B ≤ w.heap.size) : Below B w0 wr :=
  hb.grown h.2 hB (fun k e => by cases e; exact hg)
end Go.Proofs.Ytdncmdpacidgmaa
