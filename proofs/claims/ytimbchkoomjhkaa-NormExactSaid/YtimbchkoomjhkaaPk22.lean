/- Several texts in one: Cmp10g, IterKit. -/
import Derived.Test.YtimbchkoomjhkaaPk21
import Derived.Deep.RegionHeld3
import Derived.Deep.CutRange
import Derived.Test.YtimbchkoomjhkaaPk1
import Derived.RangeFuncNested
import Derived.RangeFuncBound
import Derived.RangeFuncCalls
import Derived.RangeFuncLeaves
import Derived.RangeFuncBox
import Derived.Shelf.Abstract
import Derived.Shelf.RegionOpen
import Derived.OwnWalkIn
import Derived.TacticsInMore
import Derived.LoopNIn
import Derived.LoopIn
import Derived.Maps.AppendAt
/-! Cmp10g -/
namespace Go.Proofs.Ytimbchkoomjhkaa
open Go.RowKit Go.Shelf

theorem take_one10 {s : List Int} {k : Nat} (h : k < s.length) : s.take (k + 1) = s.take k ++ [s.getD k 0] := by
  rw [List.take_succ_eq_append_getElem h, List.getD_eq_getElem?_getD, List.getElem?_eq_getElem h]
  rfl
theorem make_cap (n : Nat) (hn : n ≤ 1000000) (w : World) : (Instr.makeSlice 22 (.int .i64 0) (.int .i64 (n : Int))).run Try.prog w = .ok (.slice (some ⟨w.heap.size, 0, none⟩) 0 n) (w.alloc (.cells (List.replicate n (Value.int .i64 0)).toArray 3)) := by
  obtain ⟨i, hi, hz0, hz1, hz2⟩ := info_parts Try.infoI64
  have := run_make (P := Try.prog) w 22 3 i (.int .i64 0) Try.underlying22 hi hz0 .i64 .i64 0 (n : Int) (by omega) (by omega) (by rw [hz2]; omega) (by omega)
  rw [this, hz1]
  have e : madeCells (Value.int .i64 0).cells ((n : Int).toNat * 1) = (List.replicate n (Value.int .i64 0)).toArray := by
    apply Array.ext
    · simp [madeCells]
    · intro j h1 h2
      simp [madeCells, Value.cells, Nat.mod_one]
  rw [e]
  rfl
theorem cap_own {base n : Nat} {w : World} (hb : base ≤ w.heap.size) (hn : n ≤ 1000000) : Own .i64 3 base (w.alloc (.cells (List.replicate n (Value.int .i64 0)).toArray 3)) (.slice (some ⟨w.heap.size, 0, none⟩) 0 n) [] :=
  ⟨by simp, .inr ⟨w.heap.size, n, _, rfl, hb, heap_alloc_new w _, by simp, by unfold maxLen; omega, by simp, by simp⟩⟩

def zC : List Value := [.slice none 0 0, .int .i64 0, .int .i64 0, .map none]
theorem box_at {W w1 : World} {B m : Nat} (hb : Below m W w1) (hn : B < m) (h : Box 97 zC B W) : Box 97 zC B w1 := (hb.block B hn).trans h
theorem box_second {w : World} {t : TypeId} {cs : List Value} (o : Obj) : Box t cs (w.heap.size + 1) ((w.alloc o).alloc (.cells cs.toArray t)) := by
  have := Box.made (w.alloc o) t cs
  rwa [World.size_alloc] at this

theorem comp_start {n0 B M g n : Nat} {w : World} (hB : Box 97 [.slice (some ⟨g, 0, none⟩) 0 n, .int .i64 (-1), .int .i64 0, .map (some M)] B w) (hg : w.heap[g]? = some (.cells (Array.replicate n (Value.int .i64 0)) 3)) (hm : MapC tabCanon M w) (h1 : n0 ≤ B) (h2 : n0 ≤ M) (h3 : n0 ≤ g) (hn : n ≤ 1000000) : CompI n0 B M ⟨[], none, []⟩ w :=
  ⟨⟨_, _, hB, ⟨by simp [Cp.out], .inr ⟨g, n, _, rfl, h3, hg, by simp [Cp.out], by unfold maxLen; omega, by simp, by simp [Cp.out]⟩⟩, (fun y hy => by cases hy)⟩, hm, h1, h2, (fun y hy => by cases hy), rfl⟩
/-- four cells of a block, written over -/
def put4 (W : World) (B : Nat) (x y z u : Value) : World := (((W.setCell ⟨B, 0, none⟩ x).setCell ⟨B, 1, none⟩ y).setCell ⟨B, 2, none⟩ z).setCell ⟨B, 3, none⟩ u
theorem Box.put4 {t : TypeId} {a b c d : Value} {B : Nat} {w : World} (h : Box t [a, b, c, d] B w) (x y z u : Value) : Box t [x, y, z, u] B (put4 w B x y z u) := (((h.set 0 x).set 1 y).set 2 z).set 3 u
theorem heap_put4 {w : World} {B g : Nat} (hn : g ≠ B) (x y z u : Value) : (put4 w B x y z u).heap[g]? = w.heap[g]? := by
  unfold put4
  rw [Below.heap_setCell _ _ _ _ (by simpa using hn), Below.heap_setCell _ _ _ _ (by simpa using hn), Below.heap_setCell _ _ _ _ (by simpa using hn), Below.heap_setCell _ _ _ _ (by simpa using hn)]
theorem below_put4 {base B : Nat} {w0 w : World} (h : Below base w0 w) (hB : base ≤ B) (x y z u : Value) : Below base w0 (put4 w B x y z u) := (((h.setCell hB _).setCell hB _).setCell hB _).setCell hB _

theorem start_six {w w1 : World} {n : Nat} (hl : n ≤ 1000000) (hm : MapC tabCanon (w.heap.size + 1) w1) (hs : w.heap.size + 1 ≤ w1.heap.size) (hbw : Below w.heap.size w w1) (hx : Box 97 zC w.heap.size w1) :
    CompI w.heap.size w.heap.size (w.heap.size + 1) ⟨[], none, []⟩ ((put4 w1 w.heap.size (.slice (some ⟨w1.heap.size, 0, none⟩) 0 n) (.int .i64 (-1)) (.int .i64 0) (.map (some (w.heap.size + 1)))).alloc (.cells (Array.replicate n (Value.int .i64 0)) 3)) ∧
    Below w.heap.size w ((put4 w1 w.heap.size (.slice (some ⟨w1.heap.size, 0, none⟩) 0 n) (.int .i64 (-1)) (.int .i64 0) (.map (some (w.heap.size + 1)))).alloc (.cells (Array.replicate n (Value.int .i64 0)) 3)) := by
  have bx : Box 97 [.slice none 0 0, .int .i64 0, .int .i64 0, .map none] w.heap.size w1 := hx
  have by4 := bx.put4 (.slice (some ⟨w1.heap.size, 0, none⟩) 0 n) (.int .i64 (-1)) (.int .i64 0) (.map (some (w.heap.size + 1)))
  have hk : w.heap.size + 1 ≠ w.heap.size := by omega
  have hgl : w.heap.size ≤ w1.heap.size := by omega
  have hm4 := hm.same (heap_put4 hk (.slice (some ⟨w1.heap.size, 0, none⟩) 0 n) (.int .i64 (-1)) (.int .i64 0) (.map (some (w.heap.size + 1))))
  have hb4 := below_put4 hbw (Nat.le_refl _) (.slice (some ⟨w1.heap.size, 0, none⟩) 0 n) (.int .i64 (-1)) (.int .i64 0) (.map (some (w.heap.size + 1)))
  have hsz : (put4 w1 w.heap.size (.slice (some ⟨w1.heap.size, 0, none⟩) 0 n) (.int .i64 (-1)) (.int .i64 0) (.map (some (w.heap.size + 1)))).heap.size = w1.heap.size := by unfold put4; simp
  generalize w1.heap.size = g at *
  generalize put4 w1 w.heap.size (.slice (some ⟨g, 0, none⟩) 0 n) (.int .i64 (-1)) (.int .i64 0) (.map (some (w.heap.size + 1))) = W2 at *
  have hgg := heap_alloc_new W2 (.cells (Array.replicate n (Value.int .i64 0)) 3)
  rw [hsz] at hgg
  exact ⟨comp_start (by4.alloc _) hgg (hm4.below ((Below.refl _ _).alloc (Nat.le_refl _) _)) (Nat.le_refl _) (Nat.le_succ _) hgl hl, hb4.alloc hb4.size _⟩

set_option maxRecDepth 10000 in
set_option maxHeartbeats 4000000 in
theorem compAll : CAllOk := fun v s w h hi hl => by
  have HS := hid h
  have HI := hid hi
  obtain ⟨av, cc, hv⟩ := h.form
  obtain ⟨n, hn⟩ : ∃ n, n = s.length := ⟨_, rfl⟩
  rw [← hn] at hv hl
  subst hv
  have HN := hid hn
  have hmk := fun w => make_cap n hl w
  clear h hi hn
  go_enter Try.func35, Try.ntmps35
  go_upto_region 1 with (fail)
  go_cut [3] from 6 to 10 (fun pv wx => ∃ B M, pv = .pointer (some ⟨B, 0, none⟩) ∧ Hid (CompI w.heap.size B M ⟨[], none, []⟩ wx) ∧ Hid (Below w.heap.size w wx))
  case first =>
    go_region_held3 (fun w' => True) (exact trivial)
      ((go_simp; go_at_call 63; refine Calls.mono (cmpDecomposed _) ?_; rintro e w1 ⟨rfl, hm1, hb1⟩; have HM1 := hid hm1; have HB1 := hid hb1; (first | (have HX1 := hid (box_at hb1 (show w.heap.size + 1 < _ by simp) (box_second _))) | (have HX1 := hid (box_at hb1 (show w.heap.size < _ by simp; try omega) (Box.made _ _ _))) | (have HX1 := hid (box_at hb1 (show w.heap.size < _ by simp; try omega) ((Box.made w _ _).alloc _))) | (have HX1 := hid trivial)); (try (have hlt1 := HX1.out.lt; have bx2 := HX1.out.alloc (.cells (Array.replicate n (Value.int .i64 0)) 3); have u0 := bx2.cell 0; have u1 := bx2.cell 1; have u2 := bx2.cell 2; have u3 := bx2.cell 3; have t0 := bx2.ice 0; have t1 := bx2.ice 1; have t2 := bx2.ice 2; have t3 := bx2.ice 3; simp only [zC, List.getElem?_cons_zero, List.getElem?_cons_succ] at u0 u1 u2 u3; clear bx2; have x0 := HX1.out.cell 0; have x1 := HX1.out.cell 1; have x2 := HX1.out.cell 2; have x3 := HX1.out.cell 3; have f0 := HX1.out.ice 0; have f1 := HX1.out.ice 1; have f2 := HX1.out.ice 2; have f3 := HX1.out.ice 3; simp only [zC, List.getElem?_cons_zero, List.getElem?_cons_succ] at x0 x1 x2 x3)); clear hm1 hb1))
    all_goals go_wp2_with (fail)
    all_goals go_meet
    case rel =>
      have hm := HM1.out
      have hb := HB1.out
      have hsz : ((w.alloc (.cells (Array.replicate n (Value.int .i64 0)) 3)).drew).heap.size = w.heap.size + 1 := by simp
      have hs := hb.size
      rw [hsz] at hm hb hs
      have hbw : Below w.heap.size w w1 := Below.trans (show Below w.heap.size w ((w.alloc (.cells (Array.replicate n (Value.int .i64 0)) 3)).drew) from by (repeat (first | exact Below.refl _ _ | exact below_drewN _ | refine Below.drew ?_ | refine Below.alloc ?_ (by simp) _ | refine Below.setCell ?_ (by simp) _ | refine below_drewN' ?_ _))) (hb.mono (by omega))
      exact ⟨_, _, rfl, comp_start (Box.made w1 _ [_, _, _, _]) ((Below.heap_alloc _ _ _ (by omega)).trans ((hb.block _ (by omega)).trans (heap_alloc_new w _))) (hm.below ((Below.refl _ _).alloc (Nat.le_refl _) _)) (by omega) (by omega) (Nat.le_refl _) hl, hbw.alloc hbw.size _⟩
    case rel =>
      have hm := HM1.out
      have hb := HB1.out
      have hsz : (((w.alloc (.cells (Array.replicate n (Value.int .i64 0)) 3)).alloc (.cells #[.slice none 0 0, .int .i64 0, .int .i64 0, .map none] 97)).drew).heap.size = w.heap.size + 1 + 1 := by simp
      have hs := hb.size
      rw [hsz] at hm hb hs
      have hbw : Below w.heap.size w w1 := Below.trans (show Below w.heap.size w (((w.alloc (.cells (Array.replicate n (Value.int .i64 0)) 3)).alloc (.cells #[.slice none 0 0, .int .i64 0, .int .i64 0, .map none] 97)).drew) from by (repeat (first | exact Below.refl _ _ | exact below_drewN _ | refine Below.drew ?_ | refine Below.alloc ?_ (by simp) _ | refine Below.setCell ?_ (by simp) _ | refine below_drewN' ?_ _))) (hb.mono (by omega))
      have hg := (hb.block w.heap.size (by omega)).trans ((Below.heap_alloc (w.alloc (.cells (Array.replicate n (Value.int .i64 0)) 3)) (.cells #[.slice none 0 0, .int .i64 0, .int .i64 0, .map none] 97) _ (by simp)).trans (heap_alloc_new w (.cells (Array.replicate n (Value.int .i64 0)) 3)))
      exact ⟨_, _, rfl, comp_start (HX1.out.put4 _ _ _ _) ((heap_put4 (by omega) _ _ _ _).trans hg) (hm.same (heap_put4 (by omega) _ _ _ _)) (by omega) (by omega) (Nat.le_refl _) hl, below_put4 hbw (by omega) _ _ _ _⟩
    case rel =>
      have hm := HM1.out
      have hb := HB1.out
      have hsz : (w.drew).heap.size = w.heap.size := by simp
      have hs := hb.size
      rw [hsz] at hm hb hs
      have hbw : Below w.heap.size w w1 := Below.trans (show Below w.heap.size w (w.drew) from by (repeat (first | exact Below.refl _ _ | exact below_drewN _ | refine Below.drew ?_ | refine Below.alloc ?_ (by simp) _ | refine Below.setCell ?_ (by simp) _ | refine below_drewN' ?_ _))) (hb.mono (by omega))
      exact ⟨_, _, rfl, comp_start (box_second (.cells (Array.replicate n (Value.int .i64 0)) 3)) ((Below.heap_alloc _ _ _ (by simp)).trans (heap_alloc_new w1 _)) ((hm.below ((Below.refl _ _).alloc (Nat.le_refl _) _)).below ((Below.refl _ _).alloc (Nat.le_refl _) _)) (by omega) (by omega) (by omega) hl, (hbw.alloc hbw.size _).alloc (by simp; omega) _⟩
    case rel =>
      have hm := HM1.out
      have hb := HB1.out
      have hsz : (w.drew).heap.size = w.heap.size := by simp
      have hs := hb.size
      rw [hsz] at hm hb hs
      have hbw : Below w.heap.size w w1 := Below.trans (show Below w.heap.size w (w.drew) from by (repeat (first | exact Below.refl _ _ | exact below_drewN _ | refine Below.drew ?_ | refine Below.alloc ?_ (by simp) _ | refine Below.setCell ?_ (by simp) _ | refine below_drewN' ?_ _))) (hb.mono (by omega))
      have hg := heap_alloc_new (w1.alloc (.cells #[.slice (some ⟨w1.heap.size + 1, 0, none⟩) 0 n, .int .i64 (-1), .int .i64 0, .map (some w.heap.size)] 97)) (.cells (Array.replicate n (Value.int .i64 0)) 3)
      rw [World.size_alloc] at hg
      exact ⟨_, _, rfl, comp_start ((Box.made w1 _ [_, _, _, _]).alloc _) hg ((hm.below ((Below.refl _ _).alloc (Nat.le_refl _) _)).below ((Below.refl _ _).alloc (Nat.le_refl _) _)) (by omega) (by omega) (by omega) hl, (hbw.alloc hbw.size _).alloc (by simp; omega) _⟩
    case rel =>
      have hm := HM1.out
      have hb := HB1.out
      have hsz : (((w.alloc (.cells #[.slice none 0 0, .int .i64 0, .int .i64 0, .map none] 97)).alloc (.cells (Array.replicate n (Value.int .i64 0)) 3)).drew).heap.size = w.heap.size + 1 + 1 := by simp
      have hs := hb.size
      rw [hsz] at hm hb hs
      have hbw : Below w.heap.size w w1 := Below.trans (show Below w.heap.size w (((w.alloc (.cells #[.slice none 0 0, .int .i64 0, .int .i64 0, .map none] 97)).alloc (.cells (Array.replicate n (Value.int .i64 0)) 3)).drew) from by (repeat (first | exact Below.refl _ _ | exact below_drewN _ | refine Below.drew ?_ | refine Below.alloc ?_ (by simp) _ | refine Below.setCell ?_ (by simp) _ | refine below_drewN' ?_ _))) (hb.mono (by omega))
      have hg := heap_alloc_new (w.alloc (.cells #[.slice none 0 0, .int .i64 0, .int .i64 0, .map none] 97)) (.cells (Array.replicate n (Value.int .i64 0)) 3)
      rw [World.size_alloc] at hg
      have hg := (hb.block (w.heap.size + 1) (by omega)).trans hg
      exact ⟨_, _, rfl, comp_start (HX1.out.put4 _ _ _ _) ((heap_put4 (by omega) _ _ _ _).trans hg) (hm.same (heap_put4 (by omega) _ _ _ _)) (by omega) (by omega) (by omega) hl, below_put4 hbw (by omega) _ _ _ _⟩
    case rel =>
      have hm := HM1.out
      have hb := HB1.out
      have hsz : ((w.alloc (.cells #[.slice none 0 0, .int .i64 0, .int .i64 0, .map none] 97)).drew).heap.size = w.heap.size + 1 := by simp
      have hs := hb.size
      rw [hsz] at hm hb hs
      have hbw : Below w.heap.size w w1 := Below.trans (show Below w.heap.size w ((w.alloc (.cells #[.slice none 0 0, .int .i64 0, .int .i64 0, .map none] 97)).drew) from by (repeat (first | exact Below.refl _ _ | exact below_drewN _ | refine Below.drew ?_ | refine Below.alloc ?_ (by simp) _ | refine Below.setCell ?_ (by simp) _ | refine below_drewN' ?_ _))) (hb.mono (by omega))
      exact ⟨_, _, rfl, start_six hl hm hs hbw HX1.out⟩
  case rest =>
    obtain ⟨B, M, rfl, hc0, hb0⟩ := hcut
    obtain ⟨q1, m1, h1⟩ : n ≤ cc ∧ True ∧ (n = 0 ∨ ∃ b off, av = some ⟨b, off, none⟩ ∧ (0 < n → b < w.heap.size) ∧ ∀ i, i < n → w.cell? ⟨b, off + i, none⟩ = some (.int .i64 (s.getD i 0))) := by
      obtain ⟨a', c', hv', hl', -, hh⟩ := HS.out
      injection hv' with e1 e2 e3
      subst e1 e3
      refine ⟨by rw [HN.out]; exact hl', trivial, ?_⟩
      rcases hh with hh | ⟨b, off, ha, hbb, hcc⟩
      · exact .inl (by have := HN.out; omega)
      · exact .inr ⟨b, off, ha, fun h => hbb (by have := HN.out; omega), fun i hi => hcc i (by have := HN.out; omega)⟩
    clear m1
    have H1 := hid h1
    clear h1
    go_wp2_with (fail)
    go_loopw [13] (fun iv wr => ∃ k : Nat, k ≤ n ∧ iv = .int .i64 k ∧ Hid (CompI w.heap.size B M (fromG classS twoS (s.take k)) wr) ∧ Hid (Below w.heap.size w wr)) (fun iv _ => n - (intOf iv).toNat)
    case atStart => exact ⟨0, by omega, rfl, hc0.out, hb0.out⟩
    case round =>
      obtain ⟨k, hk, rfl, hc, hbel⟩ := hrel
      by_cases hlt : k < n
      · rcases H1.out with h0 | ⟨b1, o1, rfl, hb1, c1⟩
        · omega
        have hb1' := hb1 (by omega)
        have d1 := (hbel.out.cell (p := ⟨b1, o1 + k, none⟩) hb1').trans (c1 k hlt)
        have HADD := hid (cmpAdd w.heap.size B M (fromG classS twoS (s.take k)) (s.getD k 0) wr hc.out hbel.out.size (by
          rw [List.getD_eq_getElem?_getD, List.getElem?_eq_getElem (by have := HN.out; omega)]
          exact List.all_eq_true.1 HI.out _ (List.getElem_mem _)) (by
          have h := comp_len (cl := classS) (two := twoS) (s.take k)
          rw [List.length_take] at h
          have h2 : (fromG classS twoS (s.take k)).out.length ≤ min k s.length := h
          omega))
        rw [← fromG_snoc, ← take_one10 (by have := HN.out; omega)] at HADD
        generalize s.getD k 0 = x at d1 HADD
        clear c1
        go_wp2_with (go_at_call 64; refine HADD.out.mono ?_; rintro e w2 ⟨rfl, hc2, hb2⟩; have HC2 := hid hc2; have HB2 := hid (hbel.out.trans hb2); clear hc2 hb2)
        go_roundw
        case rel => exact ⟨k + 1, by omega, by go_num, HC2.out, HB2.out⟩
        case measure => simp [intOf]; omega
      · obtain rfl : k = n := by omega
        obtain ⟨⟨vl, la, hbx, hown, -⟩, -, -, -, -, -⟩ := hc.out
        rw [List.take_of_length_le (by have := HN.out; omega)] at hbx hown
        have HO := hid (show Own .i64 3 w.heap.size wr vl (compG classS twoS s) from hown)
        obtain ⟨al, cl, hvl⟩ := hown.sl.form
        obtain ⟨m, hm⟩ : ∃ m, m = ((fromG classS twoS s).out).length := ⟨_, rfl⟩
        rw [← hm] at hvl
        subst hvl
        have y0 := hbx.cell 0
        simp only [List.getElem?_cons_zero] at y0
        clear hown hbx hm
        go_wp2_with (fail)
        go_ret
        exact ⟨_, rfl, HO.out, hbel.out⟩
end Go.Proofs.Ytimbchkoomjhkaa

/-! IterKit -/
namespace Go.Proofs.Ytimbchkoomjhkaa
open Go.RowKit Go.Shelf

/-- the box B holds a slice (or another value) whose block lies in the world -/
def InvB (B : Nat) (t : TypeId) (W : World) : Prop := ∃ v, Boxed W B t v ∧ ∀ r, v.ownBlock = some r → r < W.heap.size
/-- What a round keeps: all that lay below n₀; and all cells but the box B and the block of the slice that lies in it, which moves to new blocks alone. -/
def KeepRow (n₀ B : Nat) (t : TypeId) (W W' : World) : Prop :=
  Below n₀ W W' ∧ ∀ v, Boxed W B t v → (∀ r, v.ownBlock = some r → r < W.heap.size) →
    ∃ v', Boxed W' B t v' ∧ (v'.ownBlock = v.ownBlock ∨ ∃ g, v'.ownBlock = some g ∧ W.heap.size ≤ g) ∧ (∀ r, v'.ownBlock = some r → r < W'.heap.size) ∧
      ∀ k o, W.heap[k]? = some o → o.isCells = true → k ≠ B → some k ≠ v.ownBlock → W'.heap[k]? = some o
theorem KeepRow.refl (n₀ B : Nat) (t : TypeId) (W : World) : KeepRow n₀ B t W W := ⟨Below.refl _ _, fun v hv hr => ⟨v, hv, .inl rfl, hr, fun _ _ h _ _ _ => h⟩⟩
theorem KeepRow.trans {n₀ B : Nat} {t : TypeId} {X Y Z : World} (h : KeepRow n₀ B t X Y) (k : KeepRow n₀ B t Y Z) : KeepRow n₀ B t X Z := by
  refine ⟨h.1.trans k.1, fun v hv hr => ?_⟩
  obtain ⟨v1, b1, s1, r1, c1⟩ := h.2 v hv hr
  obtain ⟨v2, b2, s2, r2, c2⟩ := k.2 v1 b1 r1
  refine ⟨v2, b2, ?_, r2, fun j o hj ho hB hn => c2 j o (c1 j o hj ho hB hn) ho hB ?_⟩
  · rcases s2 with s2 | ⟨g, hg, hs⟩
    · rcases s1 with s1 | ⟨g, hg, hs⟩
      · exact .inl (s2.trans s1)
      · exact .inr ⟨g, s2.trans hg, hs⟩
    · exact .inr ⟨g, hg, Nat.le_trans h.1.size hs⟩
  · have hlt := (Array.getElem?_eq_some_iff.1 hj).1
    rcases s1 with s1 | ⟨g, hg, hs⟩
    · rw [s1]; exact hn
    · rw [hg]; intro e; simp only [Option.some.injEq] at e; omega
theorem KeepRow.of_below {n₀ B : Nat} {t : TypeId} {W W' : World} (h : Below W.heap.size W W') (hn : n₀ ≤ W.heap.size) : KeepRow n₀ B t W W' :=
  ⟨h.mono hn, fun v hv hr => ⟨v, (h.block B hv.lt).trans hv, .inl rfl, fun r e => Nat.lt_of_lt_of_le (hr r e) h.size, fun k _ hk _ _ _ => (h.block k (Array.getElem?_eq_some_iff.1 hk).1).trans hk⟩⟩
theorem keepRow_putObj {n₀ B : Nat} {t : TypeId} {m : Nat} (hn : n₀ ≤ m) (W : World) (l : Nat) (o o' : Obj) (hm : m ≤ l) (hl : W.heap[l]? = some o) (hc : o.isCells = false) : KeepRow n₀ B t W (W.putObj l o') := by
  have hg := grownBy_putObj' W l o'
  refine ⟨(Below.refl n₀ W).grown hg (by have := (Array.getElem?_eq_some_iff.1 hl).1; omega) (fun k e => by cases e; omega), fun v hv hr => ⟨v, ?_, .inl rfl, ?_, ?_⟩⟩
  · refine hv.kept hg (fun e => ?_)
    have e' : B = l := by simpa using e
    rw [← e', show W.heap[B]? = _ from hv] at hl
    cases hl
    cases hc
  · intro r e
    exact Nat.lt_of_lt_of_le (hr r e) hg.size
  · intro k x hk hx _ _
    refine (hg.block k (Array.getElem?_eq_some_iff.1 hk).1 (fun e => ?_)).trans hk
    have e' : k = l := by simpa using e
    rw [e', hl] at hk
    cases hk
    rw [hc] at hx
    cases hx
theorem KeepRow.inv {n₀ B : Nat} {t : TypeId} {W W' : World} (h : KeepRow n₀ B t W W') (hi : InvB B t W) : InvB B t W' := by
  obtain ⟨v, hv, hr⟩ := hi
  obtain ⟨v', hv', _, hr', _⟩ := h.2 v hv hr
  exact ⟨v', hv', hr'⟩
/-- what was laid since W1 lies on -/
theorem KeepRow.fresh {n₀ B : Nat} {t : TypeId} {W1 W2 W3 : World} (hi : InvB B t W1) (hb : Below W1.heap.size W1 W2) (h : KeepRow n₀ B t W2 W3) {k : Nat} {o : Obj} (hk : W1.heap.size ≤ k) (ho : W2.heap[k]? = some o) (hc : o.isCells = true) : W3.heap[k]? = some o := by
  obtain ⟨v, hv, hr⟩ := hi
  have hv2 : Boxed W2 B t v := (hb.block B hv.lt).trans hv
  obtain ⟨v', _, _, _, hcs⟩ := h.2 v hv2 (fun r e => Nat.lt_of_lt_of_le (hr r e) hb.size)
  have hl := hv.lt
  refine hcs k o ho hc (by omega) (fun e => ?_)
  have := hr k e.symm
  omega
/-- and so does a slice that was made since W1 -/
theorem KeepRow.own {n₀ B : Nat} {t : TypeId} {W1 W2 W3 : World} (hi : InvB B t W1) (hb : Below W1.heap.size W1 W2) (h : KeepRow n₀ B t W2 W3) {k : IntKind} {e : Nat} {v : Value} {xs : List Int} (ho : Own k e W1.heap.size W2 v xs) : Own k e W1.heap.size W3 v xs := by
  refine ⟨ho.1, ?_⟩
  rcases ho.2 with hn | ⟨g, cap, cur, hv, hg, hh, r⟩
  · exact .inl hn
  · exact .inr ⟨g, cap, cur, hv, hg, h.fresh hi hb hg hh rfl, r⟩
theorem abides_inv {β : Type} {L B : Nat} {t : TypeId} {J : β → World → Prop} (h : AbidesFrom L J) : AbidesFrom L (fun s W => J s W ∧ InvB B t W) := fun s W W' row hs hg hr => by
  refine ⟨h s W W' row hs.1 hg hr, ?_⟩
  obtain ⟨v, hv, hb⟩ := hs.2
  refine ⟨v, hv.kept hg (fun e => ?_), fun r e => Nat.lt_of_lt_of_le (hb r e) hg.size⟩
  obtain ⟨_, o, ho, hw⟩ := hr B e.symm
  rw [show W.heap[B]? = _ from hv] at ho
  cases ho
  cases hw
/-- where the longer slice lies: in the old block or in a new one -/
theorem append_moves {P : Program} (w : World) (base : Nat) (t ty e : TypeId) (i : TypeInfo) (z : Value) (size bytes : Nat) (ht : P.underlying t = some (.slice e)) (hi : P.info? e = some i) (hz : i.zero = some z)
    (hsize : i.size = size) (hby : i.bytes = bytes) (hzs : z.cells.size = size) (hsz : 0 < size)
    (v : Value) (n : Nat) (xs : List Value) (hown : w.ownsRow base e size v n xs)
    (a : Addr) (m c : Nat) (news : List Value) (hl : news.length = m * size) (hnews : ∀ j u, news[j]? = some u → w.cell? (a.add j) = some u) (h1 : ∀ u ∈ news, u.oneCell' = true)
    (h63 : n + m ≤ maxLen) (hbytes : (n + m) * bytes ≤ 140737488355328) (v' : Value) (w' : World) (hrun : (Builtin.append_ #[t, t] ty #[v, .slice (some a) m c]).run P w = .ok v' w') :
    v'.ownBlock = v.ownBlock ∨ ∃ g, v'.ownBlock = some g ∧ w.heap.size ≤ g := by
  rcases hown.2 with ⟨rfl, rfl⟩ | ⟨g, cap, cur, rfl, hbg, hg, hnc, hcm, hcs, htake⟩
  · obtain ⟨v2, w2, hr, h2, -, -⟩ := run_append_own (P := P) w w.heap.size t ty e i z size bytes ht hi hz hsize hby hzs hsz (.slice none 0 0) 0 xs ⟨hown.1, .inl ⟨rfl, rfl⟩⟩ a m c news hl hnews h1 h63 hbytes (Nat.le_refl _)
    rw [hrun] at hr
    injection hr with hv hw
    rw [← hv, ← hw] at h2
    cases hb : v'.ownBlock with
    | none => exact .inl rfl
    | some g => exact .inr ⟨g, rfl, (World.ownsRow.lt h2 g hb).1⟩
  · subst hsize
    by_cases hroom : n + m ≤ cap
    · have hfit : n * i.size + news.length ≤ cur.size := by rw [hl, hcs, ← Nat.add_mul]; exact Nat.mul_le_mul_right _ hroom
      have hr := run_append_room (P := P) w t ty e i ht hi g n cap cur hg a m c news hl hnews h1 hroom hfit
      rw [hrun] at hr
      injection hr with hv hw
      rw [hv]
      exact .inl rfl
    · subst hby
      have holds : ∀ j u, xs[j]? = some u → w.cell? ((⟨g, 0, none⟩ : Addr).add j) = some u := hown.cells (g := g) rfl
      have hr := run_append_grow (P := P) w t ty e i z ht hi hz ⟨g, 0, none⟩ n cap xs hown.1 holds a m c news hl hnews (by omega) (by simp only [maxLen] at h63; omega) (growslice_fits (by omega) hbytes)
      rw [hrun] at hr
      injection hr with hv hw
      rw [hv]
      exact .inr ⟨w.heap.size, rfl, Nat.le_refl _⟩
theorem wpListIn_appMoves {F : Fence} {n : Nat} {P : Program} (w : World) {ops : Array Oper} {rest : List Oper} {o : Oper} {a : Act} {Q : Exit → Act → World → Prop}
    (hg : o.guard = none) (s x : Operand) (t : TypeId) (hop : o.op = Op.call { callee := Callee.builtin Builtin.append, args := #[s, x], argTypes := #[t, t] })
    (base : Nat) (e : TypeId) (i : TypeInfo) (z : Value) (size bytes : Nat) (h1 : P.underlying t = some (.slice e)) (h2 : P.info? e = some i) (h3 : i.zero = some z) (h4 : i.size = size) (h5 : i.bytes = bytes) (h6 : z.cells.size = size) (h7 : 0 < size)
    (v : Value) (k : Nat) (xs : List Value) (hs : a.eval s = v) (hown : w.ownsRow base e size v k xs) (ad : Addr) (m c : Nat) (news : List Value) (hx : a.eval x = .slice (some ad) m c) (hn : news.length = m * size)
    (hc : ∀ j u, news[j]? = some u → w.cell? (ad.add j) = some u) (h1c : ∀ u ∈ news, u.oneCell' = true) (b1 : k + m ≤ maxLen) (b2 : (k + m) * bytes ≤ 140737488355328) (b3 : base ≤ w.heap.size)
    (hK : ∀ v' w', w'.ownsRow base e size v' (k + m) (xs ++ news) → w.grownBy w' v.ownBlock → (v' = .slice none 0 0 ↔ v = .slice none 0 0 ∧ m = 0) → (v'.ownBlock = v.ownBlock ∨ ∃ g, v'.ownBlock = some g ∧ w.heap.size ≤ g) → wpListIn F n P ops Q rest (a.put o.dst v') w') :
    wpListIn F n P ops Q (o :: rest) a w := by
  refine wpListIn_plain hg fun K hK' => ?_
  obtain ⟨v', w', hrun, r1, r2, r3⟩ := run_append_own (P := P) w base t o.type e i z size bytes h1 h2 h3 h4 h5 h6 h7 v k xs hown ad m c news hn hc h1c b1 b2 b3
  have r4 := append_moves (P := P) w base t o.type e i z size bytes h1 h2 h3 h4 h5 h6 h7 v k xs hown ad m c news hn hc h1c b1 b2 v' w' hrun
  unfold Oper.wpIn
  refine ⟨?_, ?_⟩
  · simp [Oper.about, hop, resolve, Target.leads, Sem.run_pure]
  · rw [Oper.semAt_plain F _ _ (by rw [hop]; intro c hc'; cases hc')]
    simp [execOp, hop, resolve, invoke, builtin, hs, hx, hrun, Result.andThen]
    exact hK' _ _ (hK v' w' r1 r2 r3 r4)
/-- the store of the longer slice, in the words that a body owes -/
theorem keepRow_appended {n₀ B : Nat} {t : TypeId} {e : Nat} {k : IntKind} {base : Nat} {W w1 : World} {v v' : Value} {xs ys : List Int} (hte : t ≠ e) (hv : Boxed W B t v) (hB : n₀ ≤ B) (hbase : n₀ ≤ base) (hsz : n₀ ≤ W.heap.size) (ho : Own k e base W v xs) (hn : Own k e base w1 v' ys) (hg : W.grownBy w1 v.ownBlock)
    (hm : v'.ownBlock = v.ownBlock ∨ ∃ g, v'.ownBlock = some g ∧ W.heap.size ≤ g) : KeepRow n₀ B t W (w1.setCell ⟨B, 0, none⟩ v') ∧ Boxed (w1.setCell ⟨B, 0, none⟩ v') B t v' ∧ Own k e base (w1.setCell ⟨B, 0, none⟩ v') v' ys := by
  have hne : some B ≠ v.ownBlock := hv.not_row hte ho
  have hv1 : Boxed w1 B t v := hv.kept hg hne
  have hne1 : some B ≠ v'.ownBlock := hv1.not_row hte hn
  have hg2 := grownBy_setCell' w1 B v'
  have hown : Own k e base (w1.setCell ⟨B, 0, none⟩ v') v' ys := World.ownsRow.kept hn hg2 (.inr (fun e => hne1 e.symm))
  refine ⟨⟨((Below.refl n₀ W).grown hg hsz (fun r e => Nat.le_trans hbase (World.ownsRow.lt ho r e).1)).grown hg2 (by have := hg.size; omega) (fun r e => by cases e; exact hB), fun u hu _ => ?_⟩, hv1.set v', hown⟩
  obtain rfl : u = v := by
    have := (show W.heap[B]? = _ from hu).symm.trans hv
    simpa using this
  refine ⟨v', hv1.set v', hm, fun r e => (World.ownsRow.lt hown r e).2, fun j o hj _ hjB hjr => ?_⟩
  have hlt := (Array.getElem?_eq_some_iff.1 hj).1
  refine (hg2.block j (Nat.lt_of_lt_of_le hlt hg.size) (fun e => hjB (by simpa using e))).trans ?_
  exact (hg.block j hlt hjr).trans hj
end Go.Proofs.Ytimbchkoomjhkaa
