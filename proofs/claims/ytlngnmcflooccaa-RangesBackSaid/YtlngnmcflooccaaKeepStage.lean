/- Contract of the helper that compares two-stage tables. -/
import Derived.Test.YtlngnmcflooccaaKeepInts
namespace Go.Proofs.Ytlngnmcflooccaa
open Go.RowKit

set_option maxHeartbeats 1000000 in
theorem keepStage (u1 u2 v1 v2 : Value) (ix bl iy bm : List Int) (w : World) (h1 : Sl .i64 w u1 ix) (h2 : Sl .i64 w u2 bl) (h3 : Sl .i64 w v1 iy) (h4 : Sl .i64 w v2 bm) :
    Calls Try.prog 17 #[.agg #[u1, u2], .agg #[v1, v2]] w fun e w' => e = .returned (.bool (eqL ix iy && eqL bl bm)) ∧ Below w.heap.size w w' := by
  obtain ⟨a1, c1, hv1⟩ := h1.form
  obtain ⟨a2, c2, hv2⟩ := h2.form
  obtain ⟨a3, c3, hv3⟩ := h3.form
  obtain ⟨a4, c4, hv4⟩ := h4.form
  generalize ix.length = n1 at hv1
  generalize bl.length = n2 at hv2
  generalize iy.length = n3 at hv3
  generalize bm.length = n4 at hv4
  subst hv1 hv2 hv3 hv4
  have H1 := hid h1
  have H2 := hid h2
  have H3 := hid h3
  have H4 := hid h4
  clear h1 h2 h3 h4
  cases he : eqL ix iy with
  | true =>
    have HE := hid he
    clear he
    go_enter Try.func17, Try.ntmps17
    go_wp2_with (first
      | (go_at_call 20; refine (keepInts (.slice a2 n2 c2) (.slice a4 n4 c4) bl bm (World.drewN _ q1) (H2.out.below (by (repeat (first | exact Below.refl _ _ | exact below_drewN _ | refine Below.drew ?_ | refine Below.alloc ?_ (by first | omega | (simp; done) | (simp; omega)) _ | refine Below.setCell ?_ (by first | (simp; done) | (simp; omega)) _ | refine below_drewN' ?_ _)))) (H4.out.below (by (repeat (first | exact Below.refl _ _ | exact below_drewN _ | refine Below.drew ?_ | refine Below.alloc ?_ (by first | omega | (simp; done) | (simp; omega)) _ | refine Below.setCell ?_ (by first | (simp; done) | (simp; omega)) _ | refine below_drewN' ?_ _))))).mono ?_; rintro e w7 ⟨rfl, q2, rfl⟩)
      | (go_at_call 20; refine (keepInts (.slice a1 n1 c1) (.slice a3 n3 c3) ix iy _ (H1.out.below (by (repeat (first | exact Below.refl _ _ | exact below_drewN _ | refine Below.drew ?_ | refine Below.alloc ?_ (by first | omega | (simp; done) | (simp; omega)) _ | refine Below.setCell ?_ (by first | (simp; done) | (simp; omega)) _ | refine below_drewN' ?_ _)))) (H3.out.below (by (repeat (first | exact Below.refl _ _ | exact below_drewN _ | refine Below.drew ?_ | refine Below.alloc ?_ (by first | omega | (simp; done) | (simp; omega)) _ | refine Below.setCell ?_ (by first | (simp; done) | (simp; omega)) _ | refine below_drewN' ?_ _))))).mono ?_; rw [HE.out]; rintro e w6 ⟨rfl, q1, rfl⟩))
    go_ret
    exact ⟨by rw [Bool.true_and]; rfl, by (repeat (first | exact Below.refl _ _ | exact below_drewN _ | refine Below.drew ?_ | refine Below.alloc ?_ (by first | omega | (simp; done) | (simp; omega)) _ | refine Below.setCell ?_ (by first | (simp; done) | (simp; omega)) _ | refine below_drewN' ?_ _))⟩
  | false =>
    have HE := hid he
    clear he
    go_enter Try.func17, Try.ntmps17
    go_wp2_with (go_at_call 20; refine (keepInts (.slice a1 n1 c1) (.slice a3 n3 c3) ix iy _ (H1.out.below (by (repeat (first | exact Below.refl _ _ | exact below_drewN _ | refine Below.drew ?_ | refine Below.alloc ?_ (by first | omega | (simp; done) | (simp; omega)) _ | refine Below.setCell ?_ (by first | (simp; done) | (simp; omega)) _ | refine below_drewN' ?_ _)))) (H3.out.below (by (repeat (first | exact Below.refl _ _ | exact below_drewN _ | refine Below.drew ?_ | refine Below.alloc ?_ (by first | omega | (simp; done) | (simp; omega)) _ | refine Below.setCell ?_ (by first | (simp; done) | (simp; omega)) _ | refine below_drewN' ?_ _))))).mono ?_; rw [HE.out]; rintro e w6 ⟨rfl, q1, rfl⟩)
    go_ret
    exact ⟨rfl, by (repeat (first | exact Below.refl _ _ | exact below_drewN _ | refine Below.drew ?_ | refine Below.alloc ?_ (by first | omega | (simp; done) | (simp; omega)) _ | refine Below.setCell ?_ (by first | (simp; done) | (simp; omega)) _ | refine below_drewN' ?_ _))⟩
end Go.Proofs.Ytlngnmcflooccaa
