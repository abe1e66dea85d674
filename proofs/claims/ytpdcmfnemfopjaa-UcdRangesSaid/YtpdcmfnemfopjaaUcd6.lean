/- Contract of package ucd's rule for rows that are never composed. -/
import Derived.Test.YtpdcmfnemfopjaaUcd5
namespace Go.Proofs.Ytpdcmfnemfopjaa
open Go.RowKit

def delS (excl : List Int) (cls : List Rg) (r : Rg) : Bool := r.v == 0 || inL r.f excl || lookS cls r.f != 0 || lookS cls r.t != 0
set_option maxHeartbeats 2000000 in
theorem ucdDel (B1 B2 : Nat) (ve vc : Value) (excl : List Int) (cls : List Rg) (a b c : Int) (w : World) (h1 : w.cell? ⟨B1, 0, none⟩ = some ve) (he : Sl .i64 w ve excl) (h2 : w.cell? ⟨B2, 0, none⟩ = some vc) (hc : Sg w vc cls) :
    Calls Try.prog 61 #[.agg #[.int .i64 a, .int .i64 b, .int .i64 c], .pointer (some ⟨B1, 0, none⟩), .pointer (some ⟨B2, 0, none⟩)] w fun e w' => e = .returned (.bool (delS excl cls ⟨a, b, c⟩)) ∧ Below w.heap.size w w' := by
  have hb0 : Below w.heap.size w (w.alloc (.cells #[.int .i64 a, .int .i64 b, .int .i64 c] 43)) := by (repeat (first | exact Below.refl _ _ | exact below_drewN _ | refine Below.drew ?_ | refine Below.alloc ?_ (by simp) _ | refine Below.setCell ?_ (by simp) _ | refine below_drewN' ?_ _))
  have x1 := (hb0.cell (p := ⟨B1, 0, none⟩) (World.block_lt_of_cell? w _ h1)).trans h1
  have x2 := (hb0.cell (p := ⟨B2, 0, none⟩) (World.block_lt_of_cell? w _ h2)).trans h2
  have HE := hid (he.below hb0)
  have HC := hid (hc.below hb0)
  have HB0 := hid hb0
  have HX := hid (Box.made w 43 [.int .i64 a, .int .i64 b, .int .i64 c])
  clear h1 h2 he hc hb0
  obtain ⟨b2, hb2⟩ : ∃ b2, b2 = inL a excl := ⟨_, rfl⟩
  obtain ⟨n3, hn3⟩ : ∃ n3, n3 = lookS cls a := ⟨_, rfl⟩
  obtain ⟨n4, hn4⟩ : ∃ n4, n4 = lookS cls b := ⟨_, rfl⟩
  have HR := hid (show (c == 0 || b2 || n3 != 0 || n4 != 0) = delS excl cls ⟨a, b, c⟩ by rw [hb2, hn3, hn4]; rfl)
  have HI := hid hb2
  have HN3 := hid hn3
  have HN4 := hid hn4
  clear hb2 hn3 hn4
  obtain ⟨b1, hb1⟩ : ∃ b1, b1 = (c == 0) := ⟨_, rfl⟩
  obtain ⟨b3, hb3⟩ : ∃ b3, b3 = (n3 != 0) := ⟨_, rfl⟩
  obtain ⟨b4, hb4⟩ : ∃ b4, b4 = (n4 != 0) := ⟨_, rfl⟩
  rw [← hb1, ← hb3, ← hb4] at HR
  replace hb1 := hb1.symm
  replace hb3 := hb3.symm
  replace hb4 := hb4.symm
  cases b1 with
  | true =>
    go_enter Try.func61, Try.ntmps61
    go_wp2_with (fail)
    go_ret
    exact ⟨by rw [← HR.out]; rfl, HB0.out⟩
  | false =>
    cases b2 with
    | true =>
      go_enter Try.func61, Try.ntmps61
      go_wp2_with (first
        | (go_at_call 62; refine (slicesContains ve excl a _ HE.out).mono ?_; rw [← HI.out]; rintro e w1 ⟨rfl, rfl⟩))
      go_ret
      exact ⟨by rw [← HR.out]; rfl, HB0.out⟩
    | false =>
      cases b3 with
      | true =>
        go_enter Try.func61, Try.ntmps61
        go_wp2_with (first
          | (go_at_call 62; refine (slicesContains ve excl a _ HE.out).mono ?_; rw [← HI.out]; rintro e w1 ⟨rfl, rfl⟩)
          | (go_at_call 44; refine (rngFlat vc cls a _ HC.out).mono ?_; rw [← HN3.out]; rintro e w2 ⟨rfl, hb2'⟩; have HB2 := hid hb2'; clear hb2'; have HX2 := hid (HX.out.below HB2.out HX.out.lt); have x3 := (HB2.out.cell (p := ⟨B2, 0, none⟩) (World.block_lt_of_cell? _ _ x2)).trans x2; have y0 := HX2.out.cell 0; have y1 := HX2.out.cell 1; have y2 := HX2.out.cell 2; simp only [List.getElem?_cons_zero, List.getElem?_cons_succ] at y0 y1 y2))
        go_ret
        exact ⟨by rw [← HR.out]; rfl, HB0.out.trans (HB2.out.mono HB0.out.size)⟩
      | false =>
        cases b4 with
        | true =>
          go_enter Try.func61, Try.ntmps61
          go_wp2_with (first
            | (go_at_call 62; refine (slicesContains ve excl a _ HE.out).mono ?_; rw [← HI.out]; rintro e w1 ⟨rfl, rfl⟩)
            | (have _u := HB2; clear _u; go_at_call 44; refine (rngFlat vc cls b w2 (HC.out.below HB2.out)).mono ?_; rw [← HN4.out]; rintro e w3 ⟨rfl, hb3'⟩; have HB3 := hid (HB2.out.trans (hb3'.mono HB2.out.size)); clear hb3')
            | (go_at_call 44; refine (rngFlat vc cls a _ HC.out).mono ?_; rw [← HN3.out]; rintro e w2 ⟨rfl, hb2'⟩; have HB2 := hid hb2'; clear hb2'; have HX2 := hid (HX.out.below HB2.out HX.out.lt); have x3 := (HB2.out.cell (p := ⟨B2, 0, none⟩) (World.block_lt_of_cell? _ _ x2)).trans x2; have y0 := HX2.out.cell 0; have y1 := HX2.out.cell 1; have y2 := HX2.out.cell 2; simp only [List.getElem?_cons_zero, List.getElem?_cons_succ] at y0 y1 y2))
          go_ret
          exact ⟨by rw [← HR.out]; rfl, HB0.out.trans (HB3.out.mono HB0.out.size)⟩
        | false =>
          go_enter Try.func61, Try.ntmps61
          go_wp2_with (first
            | (go_at_call 62; refine (slicesContains ve excl a _ HE.out).mono ?_; rw [← HI.out]; rintro e w1 ⟨rfl, rfl⟩)
            | (have _u := HB2; clear _u; go_at_call 44; refine (rngFlat vc cls b w2 (HC.out.below HB2.out)).mono ?_; rw [← HN4.out]; rintro e w3 ⟨rfl, hb3'⟩; have HB3 := hid (HB2.out.trans (hb3'.mono HB2.out.size)); clear hb3')
            | (go_at_call 44; refine (rngFlat vc cls a _ HC.out).mono ?_; rw [← HN3.out]; rintro e w2 ⟨rfl, hb2'⟩; have HB2 := hid hb2'; clear hb2'; have HX2 := hid (HX.out.below HB2.out HX.out.lt); have x3 := (HB2.out.cell (p := ⟨B2, 0, none⟩) (World.block_lt_of_cell? _ _ x2)).trans x2; have y0 := HX2.out.cell 0; have y1 := HX2.out.cell 1; have y2 := HX2.out.cell 2; simp only [List.getElem?_cons_zero, List.getElem?_cons_succ] at y0 y1 y2))
          go_ret
          exact ⟨by rw [← HR.out]; rfl, HB0.out.trans (HB3.out.mono HB0.out.size)⟩
end Go.Proofs.Ytpdcmfnemfopjaa
