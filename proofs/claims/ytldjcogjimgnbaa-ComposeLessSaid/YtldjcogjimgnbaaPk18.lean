/- Several texts in one: Cmp10g, Ref6d, Ref10a. -/
import Derived.Test.YtldjcogjimgnbaaPk17
import Derived.Deep.RegionHeld3
import Derived.Deep.CutRange
import Derived.Test.YtldjcogjimgnbaaPk11
import Derived.Test.YtldjcogjimgnbaaPk14
import Derived.Test.YtldjcogjimgnbaaPk3
/-! Cmp10g -/
namespace Go.Proofs.Ytldjcogjimgnbaa
open Go.RowKit Go.Shelf

theorem take_one10 {s : List Int} {k : Nat} (h : k < s.length) : s.take (k + 1) = s.take k ++ [s.getD k 0] := by
  rw [List.take_succ_eq_append_getElem h, List.getD_eq_getElem?_getD, List.getElem?_eq_getElem h]
  rfl
theorem make_cap (n : Nat) (hn : n ≤ 1000000) (w : World) : (Instr.makeSlice 22 (.int .i64 0) (.int .i64 (n : Int))).run Try.prog w = .ok (.slice (some ⟨w.heap.size, 0, none⟩) 0 n) (w.alloc (.cells (List.replicate n (Value.int .i64 0)).toArray 3)) := by
  obtain ⟨i, hi, hz0, hz1, hz2⟩ := info_parts Try.infoI64
  have := run_make (P := Try.prog) w 22 3 i (.int .i64 0) Try.underlying22 hi hz0 .i64 .i64 0 (n : Int) (by omega) (by omega) (by rw [hz2]; omega) (by omega)
  rw [this, hz1]
  have e : madeCells (Value.int .i64 0).cells ((n : Int).toNat * 1) = (List.replicate n (Value.int .i64 0)).toArray := by
    apply Array.ext
    · simp [madeCells]
    · intro j h1 h2
      simp [madeCells, Value.cells, Nat.mod_one]
  rw [e]
  rfl
theorem cap_own {base n : Nat} {w : World} (hb : base ≤ w.heap.size) (hn : n ≤ 1000000) : Own .i64 3 base (w.alloc (.cells (List.replicate n (Value.int .i64 0)).toArray 3)) (.slice (some ⟨w.heap.size, 0, none⟩) 0 n) [] :=
  ⟨by simp, .inr ⟨w.heap.size, n, _, rfl, hb, heap_alloc_new w _, by simp, by unfold maxLen; omega, by simp, by simp⟩⟩

def zC : List Value := [.slice none 0 0, .int .i64 0, .int .i64 0, .map none]
theorem box_at {W w1 : World} {B m : Nat} (hb : Below m W w1) (hn : B < m) (h : Box 49 zC B W) : Box 49 zC B w1 := (hb.block B hn).trans h
theorem box_second {w : World} {t : TypeId} {cs : List Value} (o : Obj) : Box t cs (w.heap.size + 1) ((w.alloc o).alloc (.cells cs.toArray t)) := by
  have := Box.made (w.alloc o) t cs
  rwa [World.size_alloc] at this

theorem comp_start {n0 B M g n : Nat} {w : World} (hB : Box 49 [.slice (some ⟨g, 0, none⟩) 0 n, .int .i64 (-1), .int .i64 0, .map (some M)] B w) (hg : w.heap[g]? = some (.cells (Array.replicate n (Value.int .i64 0)) 3)) (hm : MapC tabCanon M w) (h1 : n0 ≤ B) (h2 : n0 ≤ M) (h3 : n0 ≤ g) (hn : n ≤ 1000000) : CompI n0 B M ⟨[], none, []⟩ w :=
  ⟨⟨_, _, hB, ⟨by simp [Cp.out], .inr ⟨g, n, _, rfl, h3, hg, by simp [Cp.out], by unfold maxLen; omega, by simp, by simp [Cp.out]⟩⟩, (fun y hy => by cases hy)⟩, hm, h1, h2, (fun y hy => by cases hy), rfl⟩
/-- four cells of a block, written over -/
def put4 (W : World) (B : Nat) (x y z u : Value) : World := (((W.setCell ⟨B, 0, none⟩ x).setCell ⟨B, 1, none⟩ y).setCell ⟨B, 2, none⟩ z).setCell ⟨B, 3, none⟩ u
theorem Box.put4 {t : TypeId} {a b c d : Value} {B : Nat} {w : World} (h : Box t [a, b, c, d] B w) (x y z u : Value) : Box t [x, y, z, u] B (put4 w B x y z u) := (((h.set 0 x).set 1 y).set 2 z).set 3 u
theorem heap_put4 {w : World} {B g : Nat} (hn : g ≠ B) (x y z u : Value) : (put4 w B x y z u).heap[g]? = w.heap[g]? := by
  unfold put4
  rw [Below.heap_setCell _ _ _ _ (by simpa using hn), Below.heap_setCell _ _ _ _ (by simpa using hn), Below.heap_setCell _ _ _ _ (by simpa using hn), Below.heap_setCell _ _ _ _ (by simpa using hn)]
theorem below_put4 {base B : Nat} {w0 w : World} (h : Below base w0 w) (hB : base ≤ B) (x y z u : Value) : Below base w0 (put4 w B x y z u) := (((h.setCell hB _).setCell hB _).setCell hB _).setCell hB _

theorem start_six {w w1 : World} {n : Nat} (hl : n ≤ 1000000) (hm : MapC tabCanon (w.heap.size + 1) w1) (hs : w.heap.size + 1 ≤ w1.heap.size) (hbw : Below w.heap.size w w1) (hx : Box 49 zC w.heap.size w1) :
    CompI w.heap.size w.heap.size (w.heap.size + 1) ⟨[], none, []⟩ ((put4 w1 w.heap.size (.slice (some ⟨w1.heap.size, 0, none⟩) 0 n) (.int .i64 (-1)) (.int .i64 0) (.map (some (w.heap.size + 1)))).alloc (.cells (Array.replicate n (Value.int .i64 0)) 3)) ∧
    Below w.heap.size w ((put4 w1 w.heap.size (.slice (some ⟨w1.heap.size, 0, none⟩) 0 n) (.int .i64 (-1)) (.int .i64 0) (.map (some (w.heap.size + 1)))).alloc (.cells (Array.replicate n (Value.int .i64 0)) 3)) := by
  have bx : Box 49 [.slice none 0 0, .int .i64 0, .int .i64 0, .map none] w.heap.size w1 := hx
  have by4 := bx.put4 (.slice (some ⟨w1.heap.size, 0, none⟩) 0 n) (.int .i64 (-1)) (.int .i64 0) (.map (some (w.heap.size + 1)))
  have hk : w.heap.size + 1 ≠ w.heap.size := by omega
  have hgl : w.heap.size ≤ w1.heap.size := by omega
  have hm4 := hm.same (heap_put4 hk (.slice (some ⟨w1.heap.size, 0, none⟩) 0 n) (.int .i64 (-1)) (.int .i64 0) (.map (some (w.heap.size + 1))))
  have hb4 := below_put4 hbw (Nat.le_refl _) (.slice (some ⟨w1.heap.size, 0, none⟩) 0 n) (.int .i64 (-1)) (.int .i64 0) (.map (some (w.heap.size + 1)))
  have hsz : (put4 w1 w.heap.size (.slice (some ⟨w1.heap.size, 0, none⟩) 0 n) (.int .i64 (-1)) (.int .i64 0) (.map (some (w.heap.size + 1)))).heap.size = w1.heap.size := by unfold put4; simp
  generalize w1.heap.size = g at *
  generalize put4 w1 w.heap.size (.slice (some ⟨g, 0, none⟩) 0 n) (.int .i64 (-1)) (.int .i64 0) (.map (some (w.heap.size + 1))) = W2 at *
  have hgg := heap_alloc_new W2 (.cells (Array.replicate n (Value.int .i64 0)) 3)
  rw [hsz] at hgg
  exact ⟨comp_start (by4.alloc _) hgg (hm4.below ((Below.refl _ _).alloc (Nat.le_refl _) _)) (Nat.le_refl _) (Nat.le_succ _) hgl hl, hb4.alloc hb4.size _⟩

set_option maxRecDepth 10000 in
set_option maxHeartbeats 4000000 in
theorem compAll : CAllOk := fun v s w h hi hl => by
  have HS := hid h
  have HI := hid hi
  obtain ⟨av, cc, hv⟩ := h.form
  obtain ⟨n, hn⟩ : ∃ n, n = s.length := ⟨_, rfl⟩
  rw [← hn] at hv hl
  subst hv
  have HN := hid hn
  have hmk := fun w => make_cap n hl w
  clear h hi hn
  go_enter Try.func12, Try.ntmps12
  go_upto_region 1 with (fail)
  go_cut [3] from 6 to 10 (fun pv wx => ∃ B M, pv = .pointer (some ⟨B, 0, none⟩) ∧ Hid (CompI w.heap.size B M ⟨[], none, []⟩ wx) ∧ Hid (Below w.heap.size w wx))
  case first =>
    go_region_held3 (fun w' => True) (exact trivial)
      ((go_simp; go_at_call 27; refine Calls.mono (cmpDecomposed _) ?_; rintro e w1 ⟨rfl, hm1, hb1⟩; have HM1 := hid hm1; have HB1 := hid hb1; (first | (have HX1 := hid (box_at hb1 (show w.heap.size + 1 < _ by simp) (box_second _))) | (have HX1 := hid (box_at hb1 (show w.heap.size < _ by simp; try omega) (Box.made _ _ _))) | (have HX1 := hid (box_at hb1 (show w.heap.size < _ by simp; try omega) ((Box.made w _ _).alloc _))) | (have HX1 := hid trivial)); (try (have hlt1 := HX1.out.lt; have bx2 := HX1.out.alloc (.cells (Array.replicate n (Value.int .i64 0)) 3); have u0 := bx2.cell 0; have u1 := bx2.cell 1; have u2 := bx2.cell 2; have u3 := bx2.cell 3; have t0 := bx2.ice 0; have t1 := bx2.ice 1; have t2 := bx2.ice 2; have t3 := bx2.ice 3; simp only [zC, List.getElem?_cons_zero, List.getElem?_cons_succ] at u0 u1 u2 u3; clear bx2; have x0 := HX1.out.cell 0; have x1 := HX1.out.cell 1; have x2 := HX1.out.cell 2; have x3 := HX1.out.cell 3; have f0 := HX1.out.ice 0; have f1 := HX1.out.ice 1; have f2 := HX1.out.ice 2; have f3 := HX1.out.ice 3; simp only [zC, List.getElem?_cons_zero, List.getElem?_cons_succ] at x0 x1 x2 x3)); clear hm1 hb1))
    all_goals go_wp2_with (fail)
    all_goals go_meet
    case rel =>
      have hm := HM1.out
      have hb := HB1.out
      have hsz : ((w.alloc (.cells (Array.replicate n (Value.int .i64 0)) 3)).drew).heap.size = w.heap.size + 1 := by simp
      have hs := hb.size
      rw [hsz] at hm hb hs
      have hbw : Below w.heap.size w w1 := Below.trans (show Below w.heap.size w ((w.alloc (.cells (Array.replicate n (Value.int .i64 0)) 3)).drew) from by (repeat (first | exact Below.refl _ _ | exact below_drewN _ | refine Below.drew ?_ | refine Below.alloc ?_ (by simp) _ | refine Below.setCell ?_ (by simp) _ | refine below_drewN' ?_ _))) (hb.mono (by omega))
      exact ⟨_, _, rfl, comp_start (Box.made w1 _ [_, _, _, _]) ((Below.heap_alloc _ _ _ (by omega)).trans ((hb.block _ (by omega)).trans (heap_alloc_new w _))) (hm.below ((Below.refl _ _).alloc (Nat.le_refl _) _)) (by omega) (by omega) (Nat.le_refl _) hl, hbw.alloc hbw.size _⟩
    case rel =>
      have hm := HM1.out
      have hb := HB1.out
      have hsz : (((w.alloc (.cells (Array.replicate n (Value.int .i64 0)) 3)).alloc (.cells #[.slice none 0 0, .int .i64 0, .int .i64 0, .map none] 49)).drew).heap.size = w.heap.size + 1 + 1 := by simp
      have hs := hb.size
      rw [hsz] at hm hb hs
      have hbw : Below w.heap.size w w1 := Below.trans (show Below w.heap.size w (((w.alloc (.cells (Array.replicate n (Value.int .i64 0)) 3)).alloc (.cells #[.slice none 0 0, .int .i64 0, .int .i64 0, .map none] 49)).drew) from by (repeat (first | exact Below.refl _ _ | exact below_drewN _ | refine Below.drew ?_ | refine Below.alloc ?_ (by simp) _ | refine Below.setCell ?_ (by simp) _ | refine below_drewN' ?_ _))) (hb.mono (by omega))
      have hg := (hb.block w.heap.size (by omega)).trans ((Below.heap_alloc (w.alloc (.cells (Array.replicate n (Value.int .i64 0)) 3)) (.cells #[.slice none 0 0, .int .i64 0, .int .i64 0, .map none] 49) _ (by simp)).trans (heap_alloc_new w (.cells (Array.replicate n (Value.int .i64 0)) 3)))
      exact ⟨_, _, rfl, comp_start (HX1.out.put4 _ _ _ _) ((heap_put4 (by omega) _ _ _ _).trans hg) (hm.same (heap_put4 (by omega) _ _ _ _)) (by omega) (by omega) (Nat.le_refl _) hl, below_put4 hbw (by omega) _ _ _ _⟩
    case rel =>
      have hm := HM1.out
      have hb := HB1.out
      have hsz : (w.drew).heap.size = w.heap.size := by simp
      have hs := hb.size
      rw [hsz] at hm hb hs
      have hbw : Below w.heap.size w w1 := Below.trans (show Below w.heap.size w (w.drew) from by (repeat (first | exact Below.refl _ _ | exact below_drewN _ | refine Below.drew ?_ | refine Below.alloc ?_ (by simp) _ | refine Below.setCell ?_ (by simp) _ | refine below_drewN' ?_ _))) (hb.mono (by omega))
      exact ⟨_, _, rfl, comp_start (box_second (.cells (Array.replicate n (Value.int .i64 0)) 3)) ((Below.heap_alloc _ _ _ (by simp)).trans (heap_alloc_new w1 _)) ((hm.below ((Below.refl _ _).alloc (Nat.le_refl _) _)).below ((Below.refl _ _).alloc (Nat.le_refl _) _)) (by omega) (by omega) (by omega) hl, (hbw.alloc hbw.size _).alloc (by simp; omega) _⟩
    case rel =>
      have hm := HM1.out
      have hb := HB1.out
      have hsz : (w.drew).heap.size = w.heap.size := by simp
      have hs := hb.size
      rw [hsz] at hm hb hs
      have hbw : Below w.heap.size w w1 := Below.trans (show Below w.heap.size w (w.drew) from by (repeat (first | exact Below.refl _ _ | exact below_drewN _ | refine Below.drew ?_ | refine Below.alloc ?_ (by simp) _ | refine Below.setCell ?_ (by simp) _ | refine below_drewN' ?_ _))) (hb.mono (by omega))
      have hg := heap_alloc_new (w1.alloc (.cells #[.slice (some ⟨w1.heap.size + 1, 0, none⟩) 0 n, .int .i64 (-1), .int .i64 0, .map (some w.heap.size)] 49)) (.cells (Array.replicate n (Value.int .i64 0)) 3)
      rw [World.size_alloc] at hg
      exact ⟨_, _, rfl, comp_start ((Box.made w1 _ [_, _, _, _]).alloc _) hg ((hm.below ((Below.refl _ _).alloc (Nat.le_refl _) _)).below ((Below.refl _ _).alloc (Nat.le_refl _) _)) (by omega) (by omega) (by omega) hl, (hbw.alloc hbw.size _).alloc (by simp; omega) _⟩
    case rel =>
      have hm := HM1.out
      have hb := HB1.out
      have hsz : (((w.alloc (.cells #[.slice none 0 0, .int .i64 0, .int .i64 0, .map none] 49)).alloc (.cells (Array.replicate n (Value.int .i64 0)) 3)).drew).heap.size = w.heap.size + 1 + 1 := by simp
      have hs := hb.size
      rw [hsz] at hm hb hs
      have hbw : Below w.heap.size w w1 := Below.trans (show Below w.heap.size w (((w.alloc (.cells #[.slice none 0 0, .int .i64 0, .int .i64 0, .map none] 49)).alloc (.cells (Array.replicate n (Value.int .i64 0)) 3)).drew) from by (repeat (first | exact Below.refl _ _ | exact below_drewN _ | refine Below.drew ?_ | refine Below.alloc ?_ (by simp) _ | refine Below.setCell ?_ (by simp) _ | refine below_drewN' ?_ _))) (hb.mono (by omega))
      have hg := heap_alloc_new (w.alloc (.cells #[.slice none 0 0, .int .i64 0, .int .i64 0, .map none] 49)) (.cells (Array.replicate n (Value.int .i64 0)) 3)
      rw [World.size_alloc] at hg
      have hg := (hb.block (w.heap.size + 1) (by omega)).trans hg
      exact ⟨_, _, rfl, comp_start (HX1.out.put4 _ _ _ _) ((heap_put4 (by omega) _ _ _ _).trans hg) (hm.same (heap_put4 (by omega) _ _ _ _)) (by omega) (by omega) (by omega) hl, below_put4 hbw (by omega) _ _ _ _⟩
    case rel =>
      have hm := HM1.out
      have hb := HB1.out
      have hsz : ((w.alloc (.cells #[.slice none 0 0, .int .i64 0, .int .i64 0, .map none] 49)).drew).heap.size = w.heap.size + 1 := by simp
      have hs := hb.size
      rw [hsz] at hm hb hs
      have hbw : Below w.heap.size w w1 := Below.trans (show Below w.heap.size w ((w.alloc (.cells #[.slice none 0 0, .int .i64 0, .int .i64 0, .map none] 49)).drew) from by (repeat (first | exact Below.refl _ _ | exact below_drewN _ | refine Below.drew ?_ | refine Below.alloc ?_ (by simp) _ | refine Below.setCell ?_ (by simp) _ | refine below_drewN' ?_ _))) (hb.mono (by omega))
      exact ⟨_, _, rfl, start_six hl hm hs hbw HX1.out⟩
  case rest =>
    obtain ⟨B, M, rfl, hc0, hb0⟩ := hcut
    obtain ⟨q1, m1, h1⟩ : n ≤ cc ∧ True ∧ (n = 0 ∨ ∃ b off, av = some ⟨b, off, none⟩ ∧ (0 < n → b < w.heap.size) ∧ ∀ i, i < n → w.cell? ⟨b, off + i, none⟩ = some (.int .i64 (s.getD i 0))) := by
      obtain ⟨a', c', hv', hl', -, hh⟩ := HS.out
      injection hv' with e1 e2 e3
      subst e1 e3
      refine ⟨by rw [HN.out]; exact hl', trivial, ?_⟩
      rcases hh with hh | ⟨b, off, ha, hbb, hcc⟩
      · exact .inl (by have := HN.out; omega)
      · exact .inr ⟨b, off, ha, fun h => hbb (by have := HN.out; omega), fun i hi => hcc i (by have := HN.out; omega)⟩
    clear m1
    have H1 := hid h1
    clear h1
    go_wp2_with (fail)
    go_loopw [13] (fun iv wr => ∃ k : Nat, k ≤ n ∧ iv = .int .i64 k ∧ Hid (CompI w.heap.size B M (fromG classS twoS (s.take k)) wr) ∧ Hid (Below w.heap.size w wr)) (fun iv _ => n - (intOf iv).toNat)
    case atStart => exact ⟨0, by omega, rfl, hc0.out, hb0.out⟩
    case round =>
      obtain ⟨k, hk, rfl, hc, hbel⟩ := hrel
      by_cases hlt : k < n
      · rcases H1.out with h0 | ⟨b1, o1, rfl, hb1, c1⟩
        · omega
        have hb1' := hb1 (by omega)
        have d1 := (hbel.out.cell (p := ⟨b1, o1 + k, none⟩) hb1').trans (c1 k hlt)
        have HADD := hid (cmpAdd w.heap.size B M (fromG classS twoS (s.take k)) (s.getD k 0) wr hc.out hbel.out.size (by
          rw [List.getD_eq_getElem?_getD, List.getElem?_eq_getElem (by have := HN.out; omega)]
          exact List.all_eq_true.1 HI.out _ (List.getElem_mem _)) (by
          have h := comp_len (cl := classS) (two := twoS) (s.take k)
          rw [List.length_take] at h
          have h2 : (fromG classS twoS (s.take k)).out.length ≤ min k s.length := h
          omega))
        rw [← fromG_snoc, ← take_one10 (by have := HN.out; omega)] at HADD
        generalize s.getD k 0 = x at d1 HADD
        clear c1
        go_wp2_with (go_at_call 28; refine HADD.out.mono ?_; rintro e w2 ⟨rfl, hc2, hb2⟩; have HC2 := hid hc2; have HB2 := hid (hbel.out.trans hb2); clear hc2 hb2)
        go_roundw
        case rel => exact ⟨k + 1, by omega, by go_num, HC2.out, HB2.out⟩
        case measure => simp [intOf]; omega
      · obtain rfl : k = n := by omega
        obtain ⟨⟨vl, la, hbx, hown, -⟩, -, -, -, -, -⟩ := hc.out
        rw [List.take_of_length_le (by have := HN.out; omega)] at hbx hown
        have HO := hid (show Own .i64 3 w.heap.size wr vl (compG classS twoS s) from hown)
        obtain ⟨al, cl, hvl⟩ := hown.sl.form
        obtain ⟨m, hm⟩ : ∃ m, m = ((fromG classS twoS s).out).length := ⟨_, rfl⟩
        rw [← hm] at hvl
        subst hvl
        have y0 := hbx.cell 0
        simp only [List.getElem?_cons_zero] at y0
        clear hown hbx hm
        go_wp2_with (fail)
        go_ret
        exact ⟨_, rfl, HO.out, hbel.out⟩
end Go.Proofs.Ytldjcogjimgnbaa

/-! Ref6d -/
namespace Go.Proofs.Ytldjcogjimgnbaa
open Go.RowKit

def refP (a b : Int) (r : Rg) : Bool := !(r.v == 0) && (!(r.t != a) && (!(r.v != b) && (!(classS a != 0) && (!(classS r.f != 0) && !exclL.any (· == r.f)))))
theorem idx_any (c : Int) : ∀ (l : List Int) (o : Int), 0 ≤ o → decide (0 ≤ idxL c l o) = l.any (· == c)
  | [], o, _ => by simp [idxL]
  | x :: l, o, h => by
    rw [idxL, List.any_cons]
    cases hx : (x == c) with
    | true => simp [h]
    | false => simpa using idx_any c l (o + 1) (by omega)
theorem fndS_filter {p q : Rg → Bool} : ∀ l : List Rg, fndS p (l.filter q) = fndS (fun r => q r && p r) l
  | [] => rfl
  | r :: l => by
    rw [List.filter_cons, fndS]
    cases hq : q r with
    | true =>
      simp only [if_true, Bool.true_and]
      rw [fndS, fndS_filter l]
    | false =>
      simp only [Bool.false_eq_true, if_false, Bool.false_and]
      exact fndS_filter l
theorem fndS_ext {p q : Rg → Bool} (h : ∀ r, p r = q r) : ∀ l : List Rg, fndS p l = fndS q l
  | [] => rfl
  | r :: l => by rw [fndS, fndS, h r, fndS_ext h l]
theorem pair_same (a b : Int) : pairS a b = ((fndS (refP a b) tabCanon).1.f, (fndS (refP a b) tabCanon).2) := by
  have e : fndS (fun r => r.t == a && r.v == b) tabPair = fndS (refP a b) tabCanon := by
    unfold tabPair
    rw [fndS_filter]
    refine fndS_ext (fun r => ?_) _
    unfold refP delS inL
    rw [idx_any _ _ _ (Int.le_refl 0), class_look, class_look]
    cases h1 : (r.t == a) with
    | false =>
      have : (r.t != a) = true := by simp only [bne, h1]; rfl
      rw [this]
      simp
    | true =>
      have h2 := eq_of_beq h1
      have : (r.t != a) = false := by simp only [bne, h1]; rfl
      rw [this, h2]
      cases (r.v == 0) <;> cases exclL.any (· == r.f) <;> cases hb : (r.v == b) <;> simp [bne, hb, Bool.and_comm]
  unfold pairS
  rw [e]
/-- whether one of the first so many is x -/
def outB (x : Int) (j : Nat) : Bool := (exclL.take j).any (· == x)
theorem outB_next {x : Int} {j : Nat} (h : j < 6) : outB x (j + 1) = (outB x j || (exclL.getD j 0 == x)) := by
  unfold outB
  rw [List.take_succ_eq_append_getElem (show j < exclL.length from h), List.any_append, List.any_cons, List.any_nil, Bool.or_false]
  congr 1
  rw [List.getD_eq_getElem?_getD, List.getElem?_eq_getElem (show j < exclL.length from h)]
  rfl

set_option maxHeartbeats 8000000 in
set_option maxRecDepth 8000 in
theorem refTPair (B : Nat) (a b : Int) (w : World) (h : TabsAt B w) : Calls Try.prog 26 #[.pointer (some ⟨B, 0, none⟩), .int .i64 a, .int .i64 b] w fun e w' => e = .returned (.tuple #[.int .i64 (pairS a b).1, .bool (pairS a b).2]) ∧ Below w.heap.size w w' := by
  rw [pair_same]
  have HT := hid h
  obtain ⟨v1, v2, v3, v4, v5, hx, h1, h2, h3, h4, h5⟩ := h
  have HX := hid hx
  clear h2 h3 h5 hx
  have ml := h1.len
  obtain ⟨l, hl⟩ : ∃ l, l = tabCanon := ⟨_, rfl⟩
  obtain ⟨R, hRR⟩ : ∃ R, R = fndS (refP a b) l := ⟨_, rfl⟩
  rw [← hl] at h1 ml ⊢
  rw [← hRR]
  clear hl
  obtain ⟨a1, cap1, rfl, q1, -, h1⟩ := h1
  obtain ⟨n, hn⟩ : ∃ n, n = l.length := ⟨_, rfl⟩
  have hH : ∀ k, k < n → (∀ i, i < k → refP a b (l.getD i noRg) = false) → refP a b (l.getD k noRg) = true → R = (l.getD k noRg, true) := fun k hk ha hh => by rw [hRR, fndS_hit (p := refP a b) (by omega) ha hh]
  have hN : (∀ i, i < n → refP a b (l.getD i noRg) = false) → R = (noRg, false) := fun ha => by rw [hRR, fndS_none (p := refP a b) (by rw [← hn]; exact ha)]
  obtain ⟨a4, cap4, hv4, q4, -, h4⟩ := h4
  rw [show exclL.length = 6 from rfl] at hv4
  subst hv4
  have HH := hid hH
  have HN := hid hN
  have H1 := hid h1
  have H4 := hid h4
  rw [← hn] at ml q1 H1 HX
  clear hH hN h1 hn hRR h4
  obtain ⟨ca, hca⟩ : ∃ ca, ca = classS a := ⟨_, rfl⟩
  have HCA := hid hca
  have x0 := HX.out.cell 0
  simp only [List.getElem?_cons_zero] at x0
  go_enter Try.func26, Try.ntmps26
  go_wp2_with (fail)
  go_loopw [8] (fun iv wr => ∃ k : Nat, k ≤ n ∧ iv = .int .i64 k ∧ Hid (Below w.heap.size w wr) ∧ Hid (∀ i, i < k → refP a b (l.getD i noRg) = false)) (fun iv _ => n - (intOf iv).toNat)
  case atStart => exact ⟨0, by omega, rfl, Below.refl _ _, fun i hi => absurd hi (by omega)⟩
  case round =>
    obtain ⟨k, hk, rfl, hbel, hall⟩ := hrel
    have x0 := (HX.out.below hbel.out HX.out.lt).cell 0
    simp only [List.getElem?_cons_zero] at x0
    by_cases hlt : k < n
    · rcases H1.out with hc | ⟨b1, o1, rfl, hb1, c1⟩
      · omega
      have hb1' := hb1 (by omega)
      obtain ⟨d1, d2, d3⟩ := c1 k hlt
      have d1 := (hbel.out.cell (p := ⟨b1, o1 + k * 3, none⟩) hb1').trans d1
      have d2 := (hbel.out.cell (p := ⟨b1, o1 + k * 3 + 1, none⟩) hb1').trans d2
      have d3 := (hbel.out.cell (p := ⟨b1, o1 + k * 3 + 2, none⟩) hb1').trans d3
      have hh := hid (HH.out k hlt hall.out)
      have HNX := hid (show refP a b (l.getD k noRg) = false → ∀ i, i < k + 1 → refP a b (l.getD i noRg) = false from fun he i hi => by
        rcases Nat.lt_or_ge i k with h | h
        · exact hall.out i h
        · obtain rfl : i = k := by omega
          exact he)
      clear c1
      generalize l.getD k noRg = r at d1 d2 d3 hh HNX
      obtain ⟨rf, rt, rv⟩ := r
      simp only at d1 d2 d3 hh HNX
      obtain ⟨cf, hcf⟩ : ∃ cf, cf = classS rf := ⟨_, rfl⟩
      have HCF := hid hcf
      obtain ⟨p1, hp1⟩ : ∃ p, p = (rv == 0) := ⟨_, rfl⟩
      obtain ⟨p2, hp2⟩ : ∃ p, p = (rt != a) := ⟨_, rfl⟩
      obtain ⟨p3, hp3⟩ : ∃ p, p = (rv != b) := ⟨_, rfl⟩
      obtain ⟨p4, hp4⟩ : ∃ p, p = (ca != 0) := ⟨_, rfl⟩
      obtain ⟨p5, hp5⟩ : ∃ p, p = (cf != 0) := ⟨_, rfl⟩
      have hrp : refP a b ⟨rf, rt, rv⟩ = (!p1 && (!p2 && (!p3 && (!p4 && (!p5 && !exclL.any (· == rf)))))) := by rw [hp1, hp2, hp3, hp4, hp5, hca, hcf]; rfl
      rw [hrp] at hh HNX
      clear hrp hcf
      replace hp1 := hp1.symm
      replace hp2 := hp2.symm
      replace hp3 := hp3.symm
      replace hp4 := hp4.symm
      replace hp5 := hp5.symm
      have HB2 := hid (hbel.out.alloc hbel.out.size (.cells #[.int .i64 rf, .int .i64 rt, .int .i64 rv] 69))
      have HTA := hid (HT.out.below HB2.out)
      clear hca
      cases p1 with
      | true =>
        have hr := hid (HNX.out rfl)
        clear HNX hh
        go_wp2_with (fail)
        go_roundw
        case rel => exact ⟨k + 1, by omega, by go_num, HB2.out, hr.out⟩
        case measure => simp [intOf]; omega
      | false =>
        cases p2 with
        | true =>
          have hr := hid (HNX.out rfl)
          clear HNX hh
          go_wp2_with (fail)
          go_roundw
          case rel => exact ⟨k + 1, by omega, by go_num, HB2.out, hr.out⟩
          case measure => simp [intOf]; omega
        | false =>
          cases p3 with
          | true =>
            have hr := hid (HNX.out rfl)
            clear HNX hh
            go_wp2_with (fail)
            go_roundw
            case rel => exact ⟨k + 1, by omega, by go_num, HB2.out, hr.out⟩
            case measure => simp [intOf]; omega
          | false =>
            cases p4 with
            | true =>
              have hr := hid (HNX.out rfl)
              clear HNX hh
              go_wp2_with (first
                | (go_at_call 29; with_reducible refine (refTClass B a _ HTA.out).mono ?_; rw [← HCA.out]; rintro e w1 ⟨rfl, rfl⟩))
              go_roundw
              case rel => exact ⟨k + 1, by omega, by go_num, HB2.out, hr.out⟩
              case measure => simp [intOf]; omega
            | false =>
              cases p5 with
              | true =>
                have hr := hid (HNX.out rfl)
                clear HNX hh
                go_wp2_with (first
                  | (go_at_call 29; with_reducible refine (refTClass B a _ HTA.out).mono ?_; rw [← HCA.out]; rintro e w1 ⟨rfl, rfl⟩)
                  | (go_at_call 29; with_reducible refine (refTClass B rf _ HTA.out).mono ?_; rw [← HCF.out]; rintro e w1 ⟨rfl, rfl⟩))
                go_roundw
                case rel => exact ⟨k + 1, by omega, by go_num, HB2.out, hr.out⟩
                case measure => simp [intOf]; omega
              | false =>
                have y0 := (HX.out.below HB2.out HX.out.lt).cell 3
                simp only [List.getElem?_cons_zero, List.getElem?_cons_succ] at y0
                have z0 := (Box.made wr 69 [.int .i64 rf, .int .i64 rt, .int .i64 rv]).cell 0
                simp only [List.getElem?_cons_zero] at z0
                go_wp2_with (first
                  | (go_at_call 29; with_reducible refine (refTClass B a _ HTA.out).mono ?_; rw [← HCA.out]; rintro e w1 ⟨rfl, rfl⟩)
                  | (go_at_call 29; with_reducible refine (refTClass B rf _ HTA.out).mono ?_; rw [← HCF.out]; rintro e w1 ⟨rfl, rfl⟩))
                generalize wr.alloc (.cells #[.int .i64 rf, .int .i64 rt, .int .i64 rv] 69) = W at HB2 HTA y0 z0 ⊢
                generalize wr.heap.size = X at z0 ⊢
                go_loopw [10, 11] (fun bv iv wx => ∃ j q : Nat, j ≤ 6 ∧ iv = .int .i64 j ∧ wx = W.drewN q ∧ Hid (bv = .bool (outB rf j))) (fun _ iv _ => 6 - (intOf iv).toNat)
                case atStart => exact ⟨0, 0, by omega, rfl, rfl, rfl⟩
                case round =>
                  obtain ⟨j, q, hj, rfl, rfl, hbv⟩ := hrel
                  by_cases hj6 : j < 6
                  · rcases H4.out with hc4 | ⟨b4, o4, rfl, hb4, c4⟩
                    · have : exclL.length = 6 := rfl
                      omega
                    have e4 := (HB2.out.cell (p := ⟨b4, o4 + j, none⟩) (hb4 (by decide))).trans (c4 j hj6)
                    have hnx := hid (outB_next (x := rf) hj6)
                    clear c4
                    generalize exclL.getD j 0 = y at e4 hnx
                    obtain ⟨ob, hob⟩ : ∃ ob, ob = outB rf j := ⟨_, rfl⟩
                    rw [← hob] at hbv hnx
                    have hv := hbv.out
                    subst hv
                    clear hbv hob
                    cases ob with
                    | true =>
                      have hn2 := hid (show Value.bool true = .bool (outB rf (j + 1)) by rw [hnx.out]; rfl)
                      go_wp2_with (fail)
                      go_quiet (fail)
                      go_wp2_with (fail)
                      go_roundw
                      case rel => exact ⟨j + 1, q + nq, by omega, by go_num, by first | rfl | exact World.drewN_drewN _ _ _, hn2.out⟩
                      case measure => simp [intOf]; omega
                    | false =>
                      obtain ⟨e, he⟩ : ∃ e, e = (y == rf) := ⟨_, rfl⟩
                      have hn2 := hid (show Value.bool e = .bool (outB rf (j + 1)) by rw [hnx.out, he]; rfl)
                      replace he := he.symm
                      go_wp2_with (fail)
                      go_quiet (fail)
                      go_wp2_with (fail)
                      go_roundw
                      case rel => exact ⟨j + 1, q + nq, by omega, by go_num, by first | rfl | exact World.drewN_drewN _ _ _, hn2.out⟩
                      case measure => simp [intOf]; omega
                  · obtain rfl : j = 6 := by omega
                    have ho : outB rf 6 = exclL.any (· == rf) := rfl
                    have hv := hbv.out
                    rw [ho] at hv
                    rw [hv]
                    obtain ⟨ob, hob⟩ : ∃ ob, ob = exclL.any (· == rf) := ⟨_, rfl⟩
                    rw [← hob] at hh HNX ⊢
                    have HB5 := hid (below_drewN' HB2.out q)
                    clear hv ho hob hbv
                    cases ob with
                    | true =>
                      have hr := hid (HNX.out rfl)
                      clear HNX hh
                      go_wp2_with (fail)
                      go_roundw
                      case rel => exact ⟨k + 1, by omega, by go_num, HB5.out, hr.out⟩
                      case measure => simp [intOf]; omega
                    | false =>
                      have hr := hid (hh.out rfl)
                      clear HNX hh
                      go_wp2_with (fail)
                      go_ret2
                      exact ⟨by rw [hr.out]; rfl, HB5.out⟩
    · obtain rfl : k = n := by omega
      have hr := hid (HN.out hall.out)
      go_wp2_with (fail)
      go_ret2
      exact ⟨by rw [hr.out]; rfl, hbel.out⟩
end Go.Proofs.Ytldjcogjimgnbaa

/-! Ref10a -/
namespace Go.Proofs.Ytldjcogjimgnbaa
open Go.RowKit

set_option maxHeartbeats 1000000 in
theorem refTwo10 (B : Nat) (a b : Int) (w : World) (h : TabsAt B w) (ha : I64n a) (hb : I64n b) : Calls Try.prog 10 #[.pointer (some ⟨B, 0, none⟩), .int .i64 a, .int .i64 b] w fun e w' => e = .returned (.tuple #[.int .i64 (twoS a b).1, .bool (twoS a b).2]) ∧ Below w.heap.size w w' := by
  have HJ := hid (fun w => refJoin7 a b w ha hb)
  have HP := hid (fun w h => refTPair B a b w h)
  have HT := hid h
  obtain ⟨R, hR⟩ : ∃ R, R = twoS a b := ⟨_, rfl⟩
  rw [← hR]
  unfold twoS at hR
  obtain ⟨J, hJ⟩ : ∃ J, J = joinS a b := ⟨_, rfl⟩
  rw [← hJ] at hR HJ
  obtain ⟨j, ok⟩ := J
  clear hJ h
  cases ok with
  | true =>
    have HR := hid (show R = (j, true) from hR)
    clear hR
    go_enter Try.func10, Try.ntmps10
    go_wp2_with (go_at_call 25; refine (HJ.out _).mono ?_; rintro e w1 ⟨rfl, rfl⟩)
    go_ret2
    exact ⟨by rw [HR.out]; rfl, Below.refl _ _⟩
  | false =>
    have HR := hid (show R = pairS a b from hR)
    rw [← HR.out] at HP
    clear hR
    go_enter Try.func10, Try.ntmps10
    go_wp2_with (first
      | (go_at_call 25; refine (HJ.out _).mono ?_; rintro e w1 ⟨rfl, rfl⟩)
      | (go_at_call 26; refine (HP.out _ HT.out).mono ?_; rintro e w2 ⟨rfl, hb2⟩))
    go_ret2
    exact ⟨rfl, hb2⟩
end Go.Proofs.Ytldjcogjimgnbaa
