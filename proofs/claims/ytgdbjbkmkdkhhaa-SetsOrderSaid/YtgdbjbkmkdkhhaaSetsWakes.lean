/- Contract of law04's waking check: it answers true and leaves what was there as it was, where package sets keeps its contracts. -/
import Derived.Test.YtgdbjbkmkdkhhaaSetsOk
namespace Go.Proofs.Ytgdbjbkmkdkhhaa
open Go.RowKit

theorem lit_two (w : World) (x y : Int) : Rws (((w.alloc (.cells #[.int .u8 x] 5)).alloc (.cells #[.int .u8 y] 5)).alloc (.cells #[.slice (some ⟨w.heap.size, 0, none⟩) 1 1, .slice (some ⟨w.heap.size + 1, 0, none⟩) 1 1] 23))
    (.slice (some ⟨w.heap.size + 1 + 1, 0, none⟩) 2 2) [[x], [y]] := by
  refine lit_rows (vs := [.slice (some ⟨w.heap.size, 0, none⟩) 1 1, .slice (some ⟨w.heap.size + 1, 0, none⟩) 1 1]) (by simp) rfl rfl rfl (by simp) fun i hi => ?_
  match i, hi with
  | 0, _ => exact (lit_sl (w := w) (xs := [x]) rfl rfl rfl (by simp)).below (Below.alloc (Below.refl _ _) (Nat.le_refl _) _)
  | 1, _ => exact lit_sl (xs := [y]) (by simp) rfl rfl (by simp)
theorem lit_wake (w : World) : Rws ((((w.alloc (.cells #[.int .u8 2] 5)).alloc (.cells #[.int .u8 1, .int .u8 0] 5)).alloc (.cells #[.int .u8 1] 5)).alloc (.cells #[.slice (some ⟨w.heap.size, 0, none⟩) 1 1, .slice (some ⟨w.heap.size + 1, 0, none⟩) 2 2, .slice (some ⟨w.heap.size + 1 + 1, 0, none⟩) 1 1] 23))
    (.slice (some ⟨w.heap.size + 1 + 1 + 1, 0, none⟩) 3 3) [[2], [1, 0], [1]] := by
  refine lit_rows (vs := [.slice (some ⟨w.heap.size, 0, none⟩) 1 1, .slice (some ⟨w.heap.size + 1, 0, none⟩) 2 2, .slice (some ⟨w.heap.size + 1 + 1, 0, none⟩) 1 1]) (by simp) rfl rfl rfl (by simp) fun i hi => ?_
  match i, hi with
  | 0, _ => exact (lit_sl (w := w) (xs := [2]) rfl rfl rfl (by simp)).below (Below.alloc (Below.alloc (Below.refl _ _) (Nat.le_refl _) _) (by simp) _)
  | 1, _ => exact (lit_sl (xs := [1, 0]) (by simp) rfl rfl (by simp)).below (Below.alloc (Below.refl _ _) (Nat.le_refl _) _)
  | 2, _ => exact lit_sl (xs := [1]) (by simp) rfl rfl (by simp)
theorem pair_sl (w : World) (x y : Int) {n m : Nat} {e : TypeId} (hn : n = w.heap.size) (hm : m = w.heap.size + 1) : Sl .u8 ((w.alloc (.cells #[.int .u8 x] e)).alloc (.cells #[.int .u8 y] e)) (.slice (some ⟨n, 0, none⟩) 1 1) [x] ∧
    Sl .u8 ((w.alloc (.cells #[.int .u8 x] e)).alloc (.cells #[.int .u8 y] e)) (.slice (some ⟨m, 0, none⟩) 1 1) [y] := by
  subst hn hm
  exact ⟨(lit_sl (w := w) (xs := [x]) rfl rfl rfl (by simp)).below (Below.alloc (Below.refl _ _) (Nat.le_refl _) _), lit_sl (xs := [y]) (by simp) rfl rfl (by simp)⟩
theorem two_rows (w : World) (x y : Int) {n m k : Nat} (hn : n = w.heap.size) (hm : m = w.heap.size + 1) (hk : k = w.heap.size + 1 + 1) : Rws (((w.alloc (.cells #[.int .u8 x] 5)).alloc (.cells #[.int .u8 y] 5)).alloc (.cells #[.slice (some ⟨n, 0, none⟩) 1 1, .slice (some ⟨m, 0, none⟩) 1 1] 23))
    (.slice (some ⟨k, 0, none⟩) 2 2) [[x], [y]] := by
  subst hn hm hk
  exact lit_two w x y
theorem rows3 {w : World} {v : Value} (h : Rws w v [[1], [1, 0], [2]]) : ∃ b o c b0 o0 c0 a1 c1, v = .slice (some ⟨b, o, none⟩) 3 c ∧ w.cell? ⟨b, o, none⟩ = some (.slice (some ⟨b0, o0, none⟩) 1 c0) ∧ w.cell? ⟨b0, o0, none⟩ = some (.int .u8 1) ∧ w.cell? ⟨b, o + 1, none⟩ = some (.slice a1 2 c1) := by
  obtain ⟨vs, l1, ⟨a, cap, rfl, h1, h2, h3⟩, r1⟩ := h
  simp only [List.length_cons, List.length_nil, Nat.zero_add, Nat.reduceAdd] at l1 r1
  rw [l1] at h1 h3 ⊢
  rcases h3 with rfl | ⟨b, o, rfl, -, c⟩
  · omega
  have d0 := c 0 (by omega)
  have d1 := c 1 (by omega)
  obtain ⟨a0, c0, e0, f1, f2, f3⟩ := r1 0 (by omega)
  obtain ⟨a1, c1, e1⟩ := (r1 1 (by omega)).form
  rw [e0] at d0
  rw [e1] at d1
  rcases f3 with rfl | ⟨b0, o0, rfl, -, g⟩
  · simp at f1
  · exact ⟨b, o, cap, b0, o0, c0, a1, c1, rfl, d0, g 0 (by simp), d1⟩

set_option maxHeartbeats 1000000 in
theorem lawWakes4 (hC : CompareOk) (hO : SortedOk) (hS : SortOk) (hP : PlaceOk) (w : World) : Calls Try.prog 20 #[] w fun e w' => e = .returned (.bool true) ∧ Below w.heap.size w w' := by
  go_enter Try.func20, Try.ntmps20
  have HW := hid (lit_wake w)
  go_wp2_with (first
    | (go_at_call 9; refine (hS _ [[2], [1, 0], [1]] _ HW.out (ru_lit (by decide)) (by simp) (by simp)).mono ?_; rintro e w2 ⟨v2, p2, rfl, hp2, ho2, hb2⟩; rw [wk_place3 hp2] at ho2; have HO2 := hid ho2.own.rws; have HB2 := hid (Below.trans (show Below w.heap.size w _ from by (repeat (first | exact Below.refl _ _ | exact below_drewN _ | refine Below.drew ?_ | refine Below.alloc ?_ (by first | omega | (simp; done) | (simp; omega)) _ | refine Below.setCell ?_ (by first | (simp; done) | (simp; omega)) _ | refine below_drewN' ?_ _))) (hb2.mono (by simp; omega))); clear ho2 hb2 hp2 HW; have HT := hid (lit_two w2 2 1))
    | (go_at_call 10; refine (hP _ [[2], [1]] _ HT.out (ru_lit (by decide)) (by simp) (by simp)).mono ?_; rintro e w3 ⟨v3, p3, rfl, hp3, ho3, hb3⟩; rw [wk_place2 hp3] at ho3; have HO3 := hid ho3.sl; have HB3 := hid (Below.trans (show Below w2.heap.size w2 _ from by (repeat (first | exact Below.refl _ _ | exact below_drewN _ | refine Below.drew ?_ | refine Below.alloc ?_ (by first | omega | (simp; done) | (simp; omega)) _ | refine Below.setCell ?_ (by first | (simp; done) | (simp; omega)) _ | refine below_drewN' ?_ _))) (hb3.mono (by simp; omega))); clear ho3 hb3 hp3 HT; have HR := hid (HO2.out.below HB3.out); obtain ⟨b, o, c, b0, o0, c0, a1, c1, rfl, d0, d1, d2⟩ := rows3 HR.out)
    | (go_at_call 12; refine (keepInts _ _ [1, 0] [1, 0] _ (HO3.out.below (by (repeat (first | exact Below.refl _ _ | exact below_drewN _ | refine Below.drew ?_ | refine Below.alloc ?_ (by simp) _ | refine Below.setCell ?_ (by simp) _ | refine below_drewN' ?_ _)))) (lit_sl rfl rfl rfl (by simp))).mono ?_; rw [eqL_self]; rintro e w6 ⟨rfl, n, rfl⟩)
    | (go_at_call 15; have HPs := hid (pair_sl ((w3.alloc (.cells #[.int .i64 1, .int .i64 0] 3)).drewN n) 1 2 (n := w3.heap.size + 1) (m := w3.heap.size + 1 + 1) (e := 5) (by simp) (by simp)); refine (hC _ _ [1] [2] _ HPs.out.1 HPs.out.2 (u8_lit (by decide)) (u8_lit (by decide))).mono ?_; rw [show cmpS [1] [2] = -1 by decide]; rintro e w7 ⟨rfl, n7, rfl⟩)
    | (go_at_call 13; refine (hO _ [[2], [1]] _ (two_rows _ 2 1 (by simp) (by simp) (by simp)) (ru_lit (by decide))).mono ?_; rw [show sortedS [[2], [1]] = false by decide]; rintro e w8 ⟨rfl, n8, rfl⟩))
  go_ret
  have hz3 := HB3.out.size
  have hz2 := HB2.out.size
  refine ⟨rfl, HB2.out.trans ((HB3.out.mono hz2).trans ?_)⟩
  (repeat (first | exact Below.refl _ _ | exact below_drewN _ | refine Below.drew ?_ | refine Below.alloc ?_ (by first | omega | (simp; done) | (simp; omega)) _ | refine Below.setCell ?_ (by first | (simp; done) | (simp; omega)) _ | refine below_drewN' ?_ _))
end Go.Proofs.Ytgdbjbkmkdkhhaa
