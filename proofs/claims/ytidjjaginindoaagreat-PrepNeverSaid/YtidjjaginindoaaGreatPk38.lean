/- Several texts in one: Cmp10g, Nrm11a. -/
import Derived.Test.YtidjjaginindoaaGreatPk32
import Derived.Deep.RegionHeld3
import Derived.Deep.CutRange
import Derived.Test.YtidjjaginindoaaGreatPk23
import Derived.Test.YtidjjaginindoaaGreatPk34
import Derived.Test.YtidjjaginindoaaGreatPk37
/-! Cmp10g -/
namespace Go.Proofs.YtidjjaginindoaaGreat
open Go.RowKit Go.Shelf

theorem take_one10 {s : List Int} {k : Nat} (h : k < s.length) : s.take (k + 1) = s.take k ++ [s.getD k 0] := by
  rw [List.take_succ_eq_append_getElem h, List.getD_eq_getElem?_getD, List.getElem?_eq_getElem h]
  rfl
theorem make_cap (n : Nat) (hn : n ≤ 1000000) (w : World) : (Instr.makeSlice 22 (.int .i64 0) (.int .i64 (n : Int))).run Tryz.prog w = .ok (.slice (some ⟨w.heap.size, 0, none⟩) 0 n) (w.alloc (.cells (List.replicate n (Value.int .i64 0)).toArray 3)) := by
  obtain ⟨i, hi, hz0, hz1, hz2⟩ := info_parts Tryz.infoI64
  have := run_make (P := Tryz.prog) w 22 3 i (.int .i64 0) Tryz.underlying22 hi hz0 .i64 .i64 0 (n : Int) (by omega) (by omega) (by rw [hz2]; omega) (by omega)
  rw [this, hz1]
  have e : madeCells (Value.int .i64 0).cells ((n : Int).toNat * 1) = (List.replicate n (Value.int .i64 0)).toArray := by
    apply Array.ext
    · simp [madeCells]
    · intro j h1 h2
      simp [madeCells, Value.cells, Nat.mod_one]
  rw [e]
  rfl
theorem cap_own {base n : Nat} {w : World} (hb : base ≤ w.heap.size) (hn : n ≤ 1000000) : Own .i64 3 base (w.alloc (.cells (List.replicate n (Value.int .i64 0)).toArray 3)) (.slice (some ⟨w.heap.size, 0, none⟩) 0 n) [] :=
  ⟨by simp, .inr ⟨w.heap.size, n, _, rfl, hb, heap_alloc_new w _, by simp, by unfold maxLen; omega, by simp, by simp⟩⟩

def zC : List Value := [.slice none 0 0, .int .i64 0, .int .i64 0, .map none]
theorem box_at {W w1 : World} {B m : Nat} (hb : Below m W w1) (hn : B < m) (h : Box 93 zC B W) : Box 93 zC B w1 := (hb.block B hn).trans h
theorem box_second {w : World} {t : TypeId} {cs : List Value} (o : Obj) : Box t cs (w.heap.size + 1) ((w.alloc o).alloc (.cells cs.toArray t)) := by
  have := Box.made (w.alloc o) t cs
  rwa [World.size_alloc] at this

theorem comp_start {n0 B M g n : Nat} {w : World} (hB : Box 93 [.slice (some ⟨g, 0, none⟩) 0 n, .int .i64 (-1), .int .i64 0, .map (some M)] B w) (hg : w.heap[g]? = some (.cells (Array.replicate n (Value.int .i64 0)) 3)) (hm : MapC tabCanon M w) (h1 : n0 ≤ B) (h2 : n0 ≤ M) (h3 : n0 ≤ g) (hn : n ≤ 1000000) : CompI n0 B M ⟨[], none, []⟩ w :=
  ⟨⟨_, _, hB, ⟨by simp [Cp.out], .inr ⟨g, n, _, rfl, h3, hg, by simp [Cp.out], by unfold maxLen; omega, by simp, by simp [Cp.out]⟩⟩, (fun y hy => by cases hy)⟩, hm, h1, h2, (fun y hy => by cases hy), rfl⟩
/-- four cells of a block, written over -/
def put4 (W : World) (B : Nat) (x y z u : Value) : World := (((W.setCell ⟨B, 0, none⟩ x).setCell ⟨B, 1, none⟩ y).setCell ⟨B, 2, none⟩ z).setCell ⟨B, 3, none⟩ u
theorem Box.put4 {t : TypeId} {a b c d : Value} {B : Nat} {w : World} (h : Box t [a, b, c, d] B w) (x y z u : Value) : Box t [x, y, z, u] B (put4 w B x y z u) := (((h.set 0 x).set 1 y).set 2 z).set 3 u
theorem heap_put4 {w : World} {B g : Nat} (hn : g ≠ B) (x y z u : Value) : (put4 w B x y z u).heap[g]? = w.heap[g]? := by
  unfold put4
  rw [Below.heap_setCell _ _ _ _ (by simpa using hn), Below.heap_setCell _ _ _ _ (by simpa using hn), Below.heap_setCell _ _ _ _ (by simpa using hn), Below.heap_setCell _ _ _ _ (by simpa using hn)]
theorem below_put4 {base B : Nat} {w0 w : World} (h : Below base w0 w) (hB : base ≤ B) (x y z u : Value) : Below base w0 (put4 w B x y z u) := (((h.setCell hB _).setCell hB _).setCell hB _).setCell hB _

theorem start_six {w w1 : World} {n : Nat} (hl : n ≤ 1000000) (hm : MapC tabCanon (w.heap.size + 1) w1) (hs : w.heap.size + 1 ≤ w1.heap.size) (hbw : Below w.heap.size w w1) (hx : Box 93 zC w.heap.size w1) :
    CompI w.heap.size w.heap.size (w.heap.size + 1) ⟨[], none, []⟩ ((put4 w1 w.heap.size (.slice (some ⟨w1.heap.size, 0, none⟩) 0 n) (.int .i64 (-1)) (.int .i64 0) (.map (some (w.heap.size + 1)))).alloc (.cells (Array.replicate n (Value.int .i64 0)) 3)) ∧
    Below w.heap.size w ((put4 w1 w.heap.size (.slice (some ⟨w1.heap.size, 0, none⟩) 0 n) (.int .i64 (-1)) (.int .i64 0) (.map (some (w.heap.size + 1)))).alloc (.cells (Array.replicate n (Value.int .i64 0)) 3)) := by
  have bx : Box 93 [.slice none 0 0, .int .i64 0, .int .i64 0, .map none] w.heap.size w1 := hx
  have by4 := bx.put4 (.slice (some ⟨w1.heap.size, 0, none⟩) 0 n) (.int .i64 (-1)) (.int .i64 0) (.map (some (w.heap.size + 1)))
  have hk : w.heap.size + 1 ≠ w.heap.size := by omega
  have hgl : w.heap.size ≤ w1.heap.size := by omega
  have hm4 := hm.same (heap_put4 hk (.slice (some ⟨w1.heap.size, 0, none⟩) 0 n) (.int .i64 (-1)) (.int .i64 0) (.map (some (w.heap.size + 1))))
  have hb4 := below_put4 hbw (Nat.le_refl _) (.slice (some ⟨w1.heap.size, 0, none⟩) 0 n) (.int .i64 (-1)) (.int .i64 0) (.map (some (w.heap.size + 1)))
  have hsz : (put4 w1 w.heap.size (.slice (some ⟨w1.heap.size, 0, none⟩) 0 n) (.int .i64 (-1)) (.int .i64 0) (.map (some (w.heap.size + 1)))).heap.size = w1.heap.size := by unfold put4; simp
  generalize w1.heap.size = g at *
  generalize put4 w1 w.heap.size (.slice (some ⟨g, 0, none⟩) 0 n) (.int .i64 (-1)) (.int .i64 0) (.map (some (w.heap.size + 1))) = W2 at *
  have hgg := heap_alloc_new W2 (.cells (Array.replicate n (Value.int .i64 0)) 3)
  rw [hsz] at hgg
  exact ⟨comp_start (by4.alloc _) hgg (hm4.below ((Below.refl _ _).alloc (Nat.le_refl _) _)) (Nat.le_refl _) (Nat.le_succ _) hgl hl, hb4.alloc hb4.size _⟩

set_option maxRecDepth 10000 in
set_option maxHeartbeats 4000000 in
theorem compAll : CAllOk := fun v s w h hi hl => by
  have HS := hid h
  have HI := hid hi
  obtain ⟨av, cc, hv⟩ := h.form
  obtain ⟨n, hn⟩ : ∃ n, n = s.length := ⟨_, rfl⟩
  rw [← hn] at hv hl
  subst hv
  have HN := hid hn
  have hmk := fun w => make_cap n hl w
  clear h hi hn
  go_enter Tryz.func47, Tryz.ntmps47
  go_upto_region 1 with (fail)
  go_cut [3] from 6 to 10 (fun pv wx => ∃ B M, pv = .pointer (some ⟨B, 0, none⟩) ∧ Hid (CompI w.heap.size B M ⟨[], none, []⟩ wx) ∧ Hid (Below w.heap.size w wx))
  case first =>
    go_region_held3 (fun w' => True) (exact trivial)
      ((go_simp; go_at_call 76; refine Calls.mono (cmpDecomposed _) ?_; rintro e w1 ⟨rfl, hm1, hb1⟩; have HM1 := hid hm1; have HB1 := hid hb1; (first | (have HX1 := hid (box_at hb1 (show w.heap.size + 1 < _ by simp) (box_second _))) | (have HX1 := hid (box_at hb1 (show w.heap.size < _ by simp; try omega) (Box.made _ _ _))) | (have HX1 := hid (box_at hb1 (show w.heap.size < _ by simp; try omega) ((Box.made w _ _).alloc _))) | (have HX1 := hid trivial)); (try (have hlt1 := HX1.out.lt; have bx2 := HX1.out.alloc (.cells (Array.replicate n (Value.int .i64 0)) 3); have u0 := bx2.cell 0; have u1 := bx2.cell 1; have u2 := bx2.cell 2; have u3 := bx2.cell 3; have t0 := bx2.ice 0; have t1 := bx2.ice 1; have t2 := bx2.ice 2; have t3 := bx2.ice 3; simp only [zC, List.getElem?_cons_zero, List.getElem?_cons_succ] at u0 u1 u2 u3; clear bx2; have x0 := HX1.out.cell 0; have x1 := HX1.out.cell 1; have x2 := HX1.out.cell 2; have x3 := HX1.out.cell 3; have f0 := HX1.out.ice 0; have f1 := HX1.out.ice 1; have f2 := HX1.out.ice 2; have f3 := HX1.out.ice 3; simp only [zC, List.getElem?_cons_zero, List.getElem?_cons_succ] at x0 x1 x2 x3)); clear hm1 hb1))
    all_goals go_wp2_with (fail)
    all_goals go_meet
    case rel =>
      have hm := HM1.out
      have hb := HB1.out
      have hsz : ((w.alloc (.cells (Array.replicate n (Value.int .i64 0)) 3)).drew).heap.size = w.heap.size + 1 := by simp
      have hs := hb.size
      rw [hsz] at hm hb hs
      have hbw : Below w.heap.size w w1 := Below.trans (show Below w.heap.size w ((w.alloc (.cells (Array.replicate n (Value.int .i64 0)) 3)).drew) from by (repeat (first | exact Below.refl _ _ | exact below_drewN _ | refine Below.drew ?_ | refine Below.alloc ?_ (by simp) _ | refine Below.setCell ?_ (by simp) _ | refine below_drewN' ?_ _))) (hb.mono (by omega))
      exact ⟨_, _, rfl, comp_start (Box.made w1 _ [_, _, _, _]) ((Below.heap_alloc _ _ _ (by omega)).trans ((hb.block _ (by omega)).trans (heap_alloc_new w _))) (hm.below ((Below.refl _ _).alloc (Nat.le_refl _) _)) (by omega) (by omega) (Nat.le_refl _) hl, hbw.alloc hbw.size _⟩
    case rel =>
      have hm := HM1.out
      have hb := HB1.out
      have hsz : (((w.alloc (.cells (Array.replicate n (Value.int .i64 0)) 3)).alloc (.cells #[.slice none 0 0, .int .i64 0, .int .i64 0, .map none] 93)).drew).heap.size = w.heap.size + 1 + 1 := by simp
      have hs := hb.size
      rw [hsz] at hm hb hs
      have hbw : Below w.heap.size w w1 := Below.trans (show Below w.heap.size w (((w.alloc (.cells (Array.replicate n (Value.int .i64 0)) 3)).alloc (.cells #[.slice none 0 0, .int .i64 0, .int .i64 0, .map none] 93)).drew) from by (repeat (first | exact Below.refl _ _ | exact below_drewN _ | refine Below.drew ?_ | refine Below.alloc ?_ (by simp) _ | refine Below.setCell ?_ (by simp) _ | refine below_drewN' ?_ _))) (hb.mono (by omega))
      have hg := (hb.block w.heap.size (by omega)).trans ((Below.heap_alloc (w.alloc (.cells (Array.replicate n (Value.int .i64 0)) 3)) (.cells #[.slice none 0 0, .int .i64 0, .int .i64 0, .map none] 93) _ (by simp)).trans (heap_alloc_new w (.cells (Array.replicate n (Value.int .i64 0)) 3)))
      exact ⟨_, _, rfl, comp_start (HX1.out.put4 _ _ _ _) ((heap_put4 (by omega) _ _ _ _).trans hg) (hm.same (heap_put4 (by omega) _ _ _ _)) (by omega) (by omega) (Nat.le_refl _) hl, below_put4 hbw (by omega) _ _ _ _⟩
    case rel =>
      have hm := HM1.out
      have hb := HB1.out
      have hsz : (w.drew).heap.size = w.heap.size := by simp
      have hs := hb.size
      rw [hsz] at hm hb hs
      have hbw : Below w.heap.size w w1 := Below.trans (show Below w.heap.size w (w.drew) from by (repeat (first | exact Below.refl _ _ | exact below_drewN _ | refine Below.drew ?_ | refine Below.alloc ?_ (by simp) _ | refine Below.setCell ?_ (by simp) _ | refine below_drewN' ?_ _))) (hb.mono (by omega))
      exact ⟨_, _, rfl, comp_start (box_second (.cells (Array.replicate n (Value.int .i64 0)) 3)) ((Below.heap_alloc _ _ _ (by simp)).trans (heap_alloc_new w1 _)) ((hm.below ((Below.refl _ _).alloc (Nat.le_refl _) _)).below ((Below.refl _ _).alloc (Nat.le_refl _) _)) (by omega) (by omega) (by omega) hl, (hbw.alloc hbw.size _).alloc (by simp; omega) _⟩
    case rel =>
      have hm := HM1.out
      have hb := HB1.out
      have hsz : (w.drew).heap.size = w.heap.size := by simp
      have hs := hb.size
      rw [hsz] at hm hb hs
      have hbw : Below w.heap.size w w1 := Below.trans (show Below w.heap.size w (w.drew) from by (repeat (first | exact Below.refl _ _ | exact below_drewN _ | refine Below.drew ?_ | refine Below.alloc ?_ (by simp) _ | refine Below.setCell ?_ (by simp) _ | refine below_drewN' ?_ _))) (hb.mono (by omega))
      have hg := heap_alloc_new (w1.alloc (.cells #[.slice (some ⟨w1.heap.size + 1, 0, none⟩) 0 n, .int .i64 (-1), .int .i64 0, .map (some w.heap.size)] 93)) (.cells (Array.replicate n (Value.int .i64 0)) 3)
      rw [World.size_alloc] at hg
      exact ⟨_, _, rfl, comp_start ((Box.made w1 _ [_, _, _, _]).alloc _) hg ((hm.below ((Below.refl _ _).alloc (Nat.le_refl _) _)).below ((Below.refl _ _).alloc (Nat.le_refl _) _)) (by omega) (by omega) (by omega) hl, (hbw.alloc hbw.size _).alloc (by simp; omega) _⟩
    case rel =>
      have hm := HM1.out
      have hb := HB1.out
      have hsz : (((w.alloc (.cells #[.slice none 0 0, .int .i64 0, .int .i64 0, .map none] 93)).alloc (.cells (Array.replicate n (Value.int .i64 0)) 3)).drew).heap.size = w.heap.size + 1 + 1 := by simp
      have hs := hb.size
      rw [hsz] at hm hb hs
      have hbw : Below w.heap.size w w1 := Below.trans (show Below w.heap.size w (((w.alloc (.cells #[.slice none 0 0, .int .i64 0, .int .i64 0, .map none] 93)).alloc (.cells (Array.replicate n (Value.int .i64 0)) 3)).drew) from by (repeat (first | exact Below.refl _ _ | exact below_drewN _ | refine Below.drew ?_ | refine Below.alloc ?_ (by simp) _ | refine Below.setCell ?_ (by simp) _ | refine below_drewN' ?_ _))) (hb.mono (by omega))
      have hg := heap_alloc_new (w.alloc (.cells #[.slice none 0 0, .int .i64 0, .int .i64 0, .map none] 93)) (.cells (Array.replicate n (Value.int .i64 0)) 3)
      rw [World.size_alloc] at hg
      have hg := (hb.block (w.heap.size + 1) (by omega)).trans hg
      exact ⟨_, _, rfl, comp_start (HX1.out.put4 _ _ _ _) ((heap_put4 (by omega) _ _ _ _).trans hg) (hm.same (heap_put4 (by omega) _ _ _ _)) (by omega) (by omega) (by omega) hl, below_put4 hbw (by omega) _ _ _ _⟩
    case rel =>
      have hm := HM1.out
      have hb := HB1.out
      have hsz : ((w.alloc (.cells #[.slice none 0 0, .int .i64 0, .int .i64 0, .map none] 93)).drew).heap.size = w.heap.size + 1 := by simp
      have hs := hb.size
      rw [hsz] at hm hb hs
      have hbw : Below w.heap.size w w1 := Below.trans (show Below w.heap.size w ((w.alloc (.cells #[.slice none 0 0, .int .i64 0, .int .i64 0, .map none] 93)).drew) from by (repeat (first | exact Below.refl _ _ | exact below_drewN _ | refine Below.drew ?_ | refine Below.alloc ?_ (by simp) _ | refine Below.setCell ?_ (by simp) _ | refine below_drewN' ?_ _))) (hb.mono (by omega))
      exact ⟨_, _, rfl, start_six hl hm hs hbw HX1.out⟩
  case rest =>
    obtain ⟨B, M, rfl, hc0, hb0⟩ := hcut
    obtain ⟨q1, m1, h1⟩ : n ≤ cc ∧ True ∧ (n = 0 ∨ ∃ b off, av = some ⟨b, off, none⟩ ∧ (0 < n → b < w.heap.size) ∧ ∀ i, i < n → w.cell? ⟨b, off + i, none⟩ = some (.int .i64 (s.getD i 0))) := by
      obtain ⟨a', c', hv', hl', -, hh⟩ := HS.out
      injection hv' with e1 e2 e3
      subst e1 e3
      refine ⟨by rw [HN.out]; exact hl', trivial, ?_⟩
      rcases hh with hh | ⟨b, off, ha, hbb, hcc⟩
      · exact .inl (by have := HN.out; omega)
      · exact .inr ⟨b, off, ha, fun h => hbb (by have := HN.out; omega), fun i hi => hcc i (by have := HN.out; omega)⟩
    clear m1
    have H1 := hid h1
    clear h1
    go_wp2_with (fail)
    go_loopw [13] (fun iv wr => ∃ k : Nat, k ≤ n ∧ iv = .int .i64 k ∧ Hid (CompI w.heap.size B M (fromG classS twoS (s.take k)) wr) ∧ Hid (Below w.heap.size w wr)) (fun iv _ => n - (intOf iv).toNat)
    case atStart => exact ⟨0, by omega, rfl, hc0.out, hb0.out⟩
    case round =>
      obtain ⟨k, hk, rfl, hc, hbel⟩ := hrel
      by_cases hlt : k < n
      · rcases H1.out with h0 | ⟨b1, o1, rfl, hb1, c1⟩
        · omega
        have hb1' := hb1 (by omega)
        have d1 := (hbel.out.cell (p := ⟨b1, o1 + k, none⟩) hb1').trans (c1 k hlt)
        have HADD := hid (cmpAdd w.heap.size B M (fromG classS twoS (s.take k)) (s.getD k 0) wr hc.out hbel.out.size (by
          rw [List.getD_eq_getElem?_getD, List.getElem?_eq_getElem (by have := HN.out; omega)]
          exact List.all_eq_true.1 HI.out _ (List.getElem_mem _)) (by
          have h := comp_len (cl := classS) (two := twoS) (s.take k)
          rw [List.length_take] at h
          have h2 : (fromG classS twoS (s.take k)).out.length ≤ min k s.length := h
          omega))
        rw [← fromG_snoc, ← take_one10 (by have := HN.out; omega)] at HADD
        generalize s.getD k 0 = x at d1 HADD
        clear c1
        go_wp2_with (go_at_call 77; refine HADD.out.mono ?_; rintro e w2 ⟨rfl, hc2, hb2⟩; have HC2 := hid hc2; have HB2 := hid (hbel.out.trans hb2); clear hc2 hb2)
        go_roundw
        case rel => exact ⟨k + 1, by omega, by go_num, HC2.out, HB2.out⟩
        case measure => simp [intOf]; omega
      · obtain rfl : k = n := by omega
        obtain ⟨⟨vl, la, hbx, hown, -⟩, -, -, -, -, -⟩ := hc.out
        rw [List.take_of_length_le (by have := HN.out; omega)] at hbx hown
        have HO := hid (show Own .i64 3 w.heap.size wr vl (compG classS twoS s) from hown)
        obtain ⟨al, cl, hvl⟩ := hown.sl.form
        obtain ⟨m, hm⟩ : ∃ m, m = ((fromG classS twoS s).out).length := ⟨_, rfl⟩
        rw [← hm] at hvl
        subst hvl
        have y0 := hbx.cell 0
        simp only [List.getElem?_cons_zero] at y0
        clear hown hbx hm
        go_wp2_with (fail)
        go_ret
        exact ⟨_, rfl, HO.out, hbel.out⟩
end Go.Proofs.YtidjjaginindoaaGreat

/-! Nrm11a -/
namespace Go.Proofs.YtidjjaginindoaaGreat
open Go.RowKit

set_option maxHeartbeats 1000000 in
theorem slicesEqual (v1 v2 : Value) (xs ys : List Int) (w : World) (h1 : Sl .i64 w v1 xs) (h2 : Sl .i64 w v2 ys) :
    Calls Tryz.prog 33 #[v1, v2] w fun e w' => e = .returned (.bool (eqL xs ys)) ∧ Below w.heap.size w w' := by
  have m1 := h1.len
  have m2 := h2.len
  obtain ⟨a1, cap1, rfl, q1, -, h1⟩ := h1
  obtain ⟨a2, cap2, rfl, q2, -, h2⟩ := h2
  have key : Calls Tryz.prog 33 #[.slice a1 xs.length cap1, .slice a2 ys.length cap2] w fun e w' => e = .returned (.bool (eqL xs ys)) ∧ ∃ n, w' = w.drewN n := by
    by_cases hne : xs.length = ys.length
    · rcases Nat.eq_zero_or_pos xs.length with h0 | h0
      · have hx : xs = [] := List.eq_nil_of_length_eq_zero h0
        have hy : ys = [] := List.eq_nil_of_length_eq_zero (by omega)
        subst hx hy
        clear h1 h2 hne h0
        simp only [List.length_nil]
        go_enter Tryz.func33, Tryz.ntmps33
        go_wp2
        go_loopw [13] (fun i wr => i = .int .i64 0 ∧ wr = w) (fun i _ => 0)
        case atStart => exact ⟨rfl, rfl⟩
        case round =>
          obtain ⟨rfl, rfl⟩ := hrel
          go_wp2
          go_ret
          exact ⟨rfl, 0, rfl⟩
      · rcases h1 with hc | ⟨b1, o1, rfl, hb1, c1⟩
        · omega
        rcases h2 with hc | ⟨b2, o2, rfl, hb2, c2⟩
        · omega
        rw [← hne] at c2 ⊢
        have HN := hid hne
        obtain ⟨len, hlen⟩ : ∃ len, len = xs.length := ⟨_, rfl⟩
        clear q1 q2
        rw [← hlen] at c1 c2 m1 h0 ⊢
        have HL := hid hlen
        clear hlen m2 hne
        have C1 := hid c1
        have C2 := hid c2
        clear c1 c2 hb1 hb2
        go_enter Tryz.func33, Tryz.ntmps33
        go_wp2
        go_loopw [13] (fun i wr => ∃ k n : Nat, k ≤ len ∧ i = .int .i64 k ∧ wr = w.drewN n ∧ Hid (∀ i, i < k → xs.getD i 0 = ys.getD i 0)) (fun i _ => len - (intOf i).toNat)
        case atStart => exact ⟨0, 0, by omega, rfl, rfl, fun i hi => absurd hi (by omega)⟩
        case round =>
          obtain ⟨k, n, hk, rfl, rfl, hall⟩ := hrel
          by_cases hlt : k < len
          · have d1 := C1.out k hlt
            have d2 := C2.out k hlt
            go_wp2
            go_quiet (fail)
            go_wp2
            · have ht : (xs[k]?.getD 0 != ys[k]?.getD 0) = true := by assumption
              go_ret
              refine ⟨ret_bool ?_, drewN_ex _ _ _⟩
              have : xs ≠ ys := by rintro rfl; simp at ht
              simp [eqL, this]
            · have ht : (xs[k]?.getD 0 != ys[k]?.getD 0) = false := by assumption
              go_roundw
              case rel =>
                refine ⟨k + 1, _, by omega, by go_num, rfl, fun i hi => ?_⟩
                rcases Nat.lt_or_ge i k with h | h
                · exact hall.out i h
                · obtain rfl : i = k := by omega
                  simpa [List.getD_eq_getElem?_getD] using ht
              case measure => simp [intOf]; omega
          · go_wp2
            go_ret
            refine ⟨ret_bool ?_, n, rfl⟩
            exact (eqL_iff.2 (ext_getD HN.out fun i hi => hall.out i (by rw [← HL.out] at hi; omega))).symm
    · have hf : eqL xs ys = false := by
        have : xs ≠ ys := by rintro rfl; exact hne rfl
        simp [eqL, this]
      rw [hf]
      clear hf h1 h2 q1 q2
      have ht : ((xs.length : Int) != (ys.length : Int)) = true := by simp; omega
      clear hne
      generalize xs.length = l1 at ht m1 ⊢
      generalize ys.length = l2 at ht m2 ⊢
      go_enter Tryz.func33, Tryz.ntmps33
      go_wp2
      go_ret
      exact ⟨rfl, 0, rfl⟩
  refine key.mono ?_
  rintro e w' ⟨he, n, rfl⟩
  exact ⟨he, below_drewN n⟩

set_option maxHeartbeats 1000000 in
theorem normApart : NApartOk := fun k v s w h hf => by
  have H1 := hid (allDec k v s w h hf.1 hf.2.1)
  have H2 := hid (fun v w h => orderPut v (allS k s) w h hf.2.2)
  obtain ⟨A, hA⟩ : ∃ A, A = apartS k s := ⟨_, rfl⟩
  rw [← hA]
  rw [show putO classS (allS k s) = A from hA.symm] at H2
  generalize allS k s = D at H1 H2
  clear hA h hf
  go_enter Tryz.func48, Tryz.ntmps48
  go_wp2_with (first
    | (go_at_call 79; refine H1.out.mono ?_; rintro e w1 ⟨v1, rfl, ho1, hb1⟩; have HO1 := hid ho1.sl; have HB1 := hid hb1; clear ho1 hb1)
    | (go_at_call 78; refine (H2.out v1 _ HO1.out).mono ?_; rintro e w2 ⟨v2, rfl, ho2, hb2⟩; have HO2 := hid (ho2.mono HB1.out.size); have HB2 := hid (HB1.out.trans (hb2.mono HB1.out.size)); clear ho2 hb2))
  go_ret
  exact ⟨_, rfl, HO2.out, HB2.out⟩
set_option maxHeartbeats 1000000 in
theorem normForm : NFormOk := fun k v s w h hf => by
  have H1 := hid (normApart k v s w h hf)
  have H2 := hid (fun v w h => compAll v (apartS k s) w h (apart_inI hf.1) (by rw [apart_len]; exact hf.2.2))
  obtain ⟨F, hF⟩ : ∃ F, F = formS k s := ⟨_, rfl⟩
  rw [← hF]
  rw [show compG classS twoS (apartS k s) = F from hF.symm] at H2
  generalize apartS k s = A at H1 H2
  clear hF h hf
  go_enter Tryz.func21, Tryz.ntmps21
  go_wp2_with (first
    | (go_at_call 48; refine H1.out.mono ?_; rintro e w1 ⟨v1, rfl, ho1, hb1⟩; have HO1 := hid ho1.sl; have HB1 := hid hb1; clear ho1 hb1)
    | (go_at_call 47; refine (H2.out v1 _ HO1.out).mono ?_; rintro e w2 ⟨v2, rfl, ho2, hb2⟩; have HO2 := hid (ho2.mono HB1.out.size); have HB2 := hid (HB1.out.trans (hb2.mono HB1.out.size)); clear ho2 hb2))
  go_ret
  exact ⟨_, rfl, HO2.out, HB2.out⟩
end Go.Proofs.YtidjjaginindoaaGreat
