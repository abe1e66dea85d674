/- Contract of the library's exchange of two runs of a row of numbers (slices.swapRangeCmpFunc at []int): of all that was there, that row alone is changed. -/
import Derived.Test.YtgdbjbkmkdkhhaaStabMath
import Derived.Test.YtgdbjbkmkdkhhaaOver
import Derived.BigRegion
namespace Go.Proofs.Ytgdbjbkmkdkhhaa
open Go.RowKit

def cv (p : List Nat) : List Value := (castL p).map (Value.int .i64)
theorem cv_len (p : List Nat) : (cv p).length = p.length := by simp [cv, castL]
theorem cv_at {p : List Nat} {i : Nat} (h : i < p.length) : (cv p)[i]? = some (.int .i64 (p.getD i 0 : Nat)) := by
  simp [cv, castL, List.getD_eq_getElem?_getD, List.getElem?_eq_getElem h]
theorem cv_sw (p : List Nat) (i j : Nat) : ((cv p).set i (.int .i64 (p.getD j 0 : Nat))).set j (.int .i64 (p.getD i 0 : Nat)) = cv (sw p i j) := by
  simp [cv, castL, sw, List.map_set]

/-- a row of numbers in block g; all else is as it was in w -/
def Rown (g : Nat) (w : World) (p : List Nat) (wr : World) : Prop := Box 3 (cv p) g wr ∧ w.grownBy wr (some g)
theorem Rown.drewN {g : Nat} {w wr : World} {p : List Nat} (h : Rown g w p wr) (n : Nat) : Rown g w p (wr.drewN n) :=
  ⟨h.1, ⟨h.2.os, h.2.tape, h.2.output, h.2.size, h.2.block⟩⟩
theorem Rown.trans {g : Nat} {w w1 w2 : World} {p q : List Nat} (h : Rown g w p w1) (k : Rown g w1 q w2) : Rown g w q w2 :=
  ⟨k.1, ⟨k.2.os.trans h.2.os, k.2.tape.trans h.2.tape, k.2.output.trans h.2.output, Nat.le_trans h.2.size k.2.size, fun i hi hn => (k.2.block i (Nat.lt_of_lt_of_le hi h.2.size) hn).trans (h.2.block i hi hn)⟩⟩
theorem Rown.refl {g : Nat} {w : World} {p : List Nat} (h : Box 3 (cv p) g w) : Rown g w p w := ⟨h, rfl, rfl, rfl, Nat.le_refl _, fun _ _ _ => rfl⟩
theorem Rown.swap {g : Nat} {w wr : World} {p : List Nat} (h : Rown g w p wr) (i j : Nat) {x y : Int} (hx : x = (p.getD i 0 : Nat)) (hy : y = (p.getD j 0 : Nat)) :
    Rown g w (sw p i j) ((wr.setCell ⟨g, i, none⟩ (.int .i64 y)).setCell ⟨g, j, none⟩ (.int .i64 x)) := by
  subst hx hy
  refine ⟨?_, grow_set1 (grow_set1 h.2 i _) j _⟩
  rw [← cv_sw]
  exact (h.1.set i _).set j _
theorem Rown.at {g : Nat} {w wr : World} {p : List Nat} (h : Rown g w p wr) {i : Nat} (hi : i < p.length) : wr.cell? ⟨g, i, none⟩ = some (.int .i64 (p.getD i 0 : Nat)) := by
  rw [h.1.cell i, cv_at hi]
theorem Rown.ice {g : Nat} {w wr : World} {p : List Nat} (h : Rown g w p wr) (i : Nat) : wr.frozen? ⟨g, i, none⟩ = false := h.1.ice i

set_option maxHeartbeats 1000000 in
theorem swapRange (g cap n : Nat) (p : List Nat) (a b k : Nat) (cb : Value) (w : World) (hb : Box 3 (cv p) g w) (hp : p.length = n) (hn : n ≤ 1000000) (hab : a + k ≤ b) (hbk : b + k ≤ n) :
    Calls Try.prog 33 #[.slice (some ⟨g, 0, none⟩) n cap, .int .i64 a, .int .i64 b, .int .i64 k, cb] w fun e w' => e = .returned (.tuple #[]) ∧ Rown g w (swR p a b k) w' := by
  have HR := hid (Rown.refl hb)
  have HP := hid hp
  clear hb hp
  go_enter Try.func33, Try.ntmps33
  go_wp2
  go_loopw [10] (fun iv wr => ∃ i : Nat, i ≤ k ∧ iv = .int .i64 i ∧ Hid (Rown g w (swR p a b i) wr)) (fun iv _ => k - (intOf iv).toNat)
  case atStart => exact ⟨0, by omega, rfl, HR.out⟩
  case round =>
    obtain ⟨i, hi, rfl, hr⟩ := hrel
    by_cases hlt : i < k
    · obtain ⟨q, hq⟩ : ∃ q, q = swR p a b i := ⟨_, rfl⟩
      have hql : q.length = n := by rw [hq, swR_len]; exact HP.out
      have hs : Hid (sw q (a + i) (b + i) = swR p a b (i + 1)) := hid (by rw [hq]; rfl)
      rw [← hq] at hr
      clear hq
      have c1 := hr.out.at (i := a + i) (by omega)
      have c2 := hr.out.at (i := b + i) (by omega)
      have f1 := hr.out.ice (a + i)
      have f2 := hr.out.ice (b + i)
      obtain ⟨x, hx⟩ : ∃ x, x = q.getD (a + i) 0 := ⟨_, rfl⟩
      obtain ⟨y, hy⟩ : ∃ y, y = q.getD (b + i) 0 := ⟨_, rfl⟩
      rw [← hx] at c1
      rw [← hy] at c2
      have HX := hid hx
      have HY := hid hy
      clear hx hy hql
      obtain ⟨ai, hai⟩ : ∃ ai, ai = a + i := ⟨_, rfl⟩
      obtain ⟨bi, hbi⟩ : ∃ bi, bi = b + i := ⟨_, rfl⟩
      rw [← hai] at c1 f1
      rw [← hbi] at c2 f2
      have w1 : (a : Int) + (i : Int) = (ai : Int) := by omega
      have w2 : (b : Int) + (i : Int) = (bi : Int) := by omega
      have n1 : ai ≠ bi := by omega
      have n2 : bi ≠ ai := by omega
      have l1 : ai < n := by omega
      have l2 : bi < n := by omega
      have HAI := hid hai
      have HBI := hid hbi
      clear hai hbi
      go_wp2
      go_big_region
      all_goals go_wp2
      go_roundw
      case rel => exact ⟨i + 1, by omega, by go_num, by rw [← hs.out, ← HAI.out, ← HBI.out]; exact (hr.out.swap ai bi (by rw [HX.out, HAI.out]) (by rw [HY.out, HBI.out])).drewN 1⟩
      case measure => simp [intOf]; omega
    · obtain rfl : i = k := by omega
      go_wp2
      go_end0
      exact ⟨rfl, hr.out⟩
end Go.Proofs.Ytgdbjbkmkdkhhaa
