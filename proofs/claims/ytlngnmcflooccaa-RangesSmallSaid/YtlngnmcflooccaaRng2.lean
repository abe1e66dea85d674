/- Contracts of package ranges' hasBlock, Get and complete: what a two-stage table says of a number; whether it is whole. -/
import Derived.Test.YtlngnmcflooccaaRngUnp
import Derived.Test.YtlngnmcflooccaaKeepInts
namespace Go.Proofs.Ytlngnmcflooccaa
open Go.RowKit

theorem rngHas (u1 u2 : Value) (bl : List Int) (q : Int) (w : World) (h2 : Sl .i64 w u2 bl) :
    Calls Try.prog 26 #[.agg #[u1, u2], .int .i64 q] w fun e w' => e = .returned (.bool (decide (0 ≤ q ∧ q < (bl.length / 256 : Nat)))) ∧ Below w.heap.size w w' := by
  have m2 := h2.len
  obtain ⟨a2, cap2, rfl, k2, -, h2⟩ := h2
  generalize bl.length = n2 at m2 ⊢
  obtain ⟨nb, hnb⟩ : ∃ nb, nb = n2 / 256 := ⟨_, rfl⟩
  have w3 : (n2 : Int) / 256 = (nb : Int) := by omega
  rw [← hnb]
  clear hnb h2 k2
  have hbx := Box.made w 25 [u1, .slice a2 n2 cap2]
  have x1 := hbx.cell 1
  simp only [List.getElem?_cons_zero, List.getElem?_cons_succ] at x1
  go_enter Try.func26, Try.ntmps26
  by_cases h0 : 0 ≤ q
  · by_cases h1 : q < (nb : Int)
    · go_wp2
      go_ret
      exact ⟨ret_bool (decide_eq_true (by omega)).symm, by (repeat (first | exact Below.refl _ _ | exact below_drewN _ | refine Below.drew ?_ | refine Below.alloc ?_ (by first | omega | (simp; done) | (simp; omega)) _ | refine Below.setCell ?_ (by first | (simp; done) | (simp; omega)) _ | refine below_drewN' ?_ _))⟩
    · go_wp2
      go_ret
      exact ⟨ret_bool (decide_eq_false (by omega)).symm, by (repeat (first | exact Below.refl _ _ | exact below_drewN _ | refine Below.drew ?_ | refine Below.alloc ?_ (by first | omega | (simp; done) | (simp; omega)) _ | refine Below.setCell ?_ (by first | (simp; done) | (simp; omega)) _ | refine below_drewN' ?_ _))⟩
  · go_wp2
    go_ret
    exact ⟨ret_bool (by rw [show decide (0 ≤ q) = false from decide_eq_false (by omega)]; rfl), by (repeat (first | exact Below.refl _ _ | exact below_drewN _ | refine Below.drew ?_ | refine Below.alloc ?_ (by first | omega | (simp; done) | (simp; omega)) _ | refine Below.setCell ?_ (by first | (simp; done) | (simp; omega)) _ | refine below_drewN' ?_ _))⟩

set_option maxHeartbeats 1000000 in
theorem rngGet (u1 u2 : Value) (ix bl : List Int) (c : Int) (w : World) (h1 : Sl .i64 w u1 ix) (h2 : Sl .i64 w u2 bl) :
    Calls Try.prog 11 #[.agg #[u1, u2], .int .i64 c] w fun e w' => e = .returned (.int .i64 (getS ix bl c)) ∧ Below w.heap.size w w' := by
  have m1 := h1.len
  have m2 := h2.len
  have h2' := h2
  obtain ⟨a1, cap1, rfl, k1, -, h1⟩ := h1
  obtain ⟨a2, cap2, rfl, k2, -, h2⟩ := h2
  obtain ⟨n1, hn1⟩ : ∃ n, n = ix.length := ⟨_, rfl⟩
  obtain ⟨n2, hn2⟩ : ∃ n, n = bl.length := ⟨_, rfl⟩
  have H1 := hid h1
  have H2 := hid h2
  rw [← hn1] at H1 m1 k1 ⊢
  rw [← hn2] at H2 m2 k2 h2' ⊢
  have HN := hid (show n1 = ix.length ∧ n2 = bl.length from ⟨hn1, hn2⟩)
  have HSL := hid h2'
  clear h1 h2 hn1 hn2 h2'
  by_cases hc : 0 ≤ c ∧ c ≤ 1114111
  · obtain ⟨hc0, hc1⟩ := hc
    obtain ⟨k, rfl⟩ := Int.eq_ofNat_of_zero_le hc0
    obtain ⟨g, hg⟩ : ∃ g, g = k / 256 := ⟨_, rfl⟩
    obtain ⟨r, hr⟩ : ∃ r, r = k % 256 := ⟨_, rfl⟩
    have w1 : (k : Int) / 256 = (g : Int) := by omega
    have w2 : (k : Int) % 256 = (r : Int) := by omega
    have hr256 : r < 256 := by omega
    obtain ⟨nb, hnb⟩ : ∃ nb, nb = n2 / 256 := ⟨_, rfl⟩
    have hnb2 : nb * 256 ≤ n2 := by omega
    have HS : Hid (getS ix bl (k : Int) = if g < n1 ∧ 0 ≤ ix.getD g 0 ∧ ix.getD g 0 < (nb : Int) then bl.getD (256 * (ix.getD g 0).toNat + r) 0 else 0) := hid (by
      unfold getS maxS
      rw [show ((k : Int) / 256).toNat = g by omega, show ((k : Int) % 256).toNat = r by omega, ← HN.out.1, ← HN.out.2, ← hnb]
      by_cases hh : g < n1 ∧ 0 ≤ ix.getD g 0 ∧ ix.getD g 0 < (nb : Int)
      · rw [if_pos hh, if_pos ⟨by omega, by omega, by omega, hh.2.1, hh.2.2⟩]
      · rw [if_neg hh, if_neg (by omega)])
    rw [HS.out]
    have HNB := hid (show bl.length / 256 = nb by rw [← HN.out.2, hnb])
    clear hg hr hnb HS
    by_cases hg1 : g < n1
    · rcases H1.out with hcap | ⟨b1, o1, rfl, hb1, c1⟩
      · exfalso; omega
      have d1 := c1 g hg1
      have hb1' := hb1 (by omega)
      have d1' : (w.alloc (.cells #[.slice (some ⟨b1, o1, none⟩) n1 cap1, .slice a2 n2 cap2] 25)).cell? ⟨b1, o1 + g, none⟩ = some (.int .i64 (ix.getD g 0)) := ((Below.alloc (Below.refl w.heap.size w) (Nat.le_refl _) _).cell (p := ⟨b1, o1 + g, none⟩) hb1').trans d1
      clear c1 hb1 d1 H1
      generalize ix.getD g 0 = z at d1' ⊢
      obtain ⟨hv, hhv⟩ : ∃ hv, hv = decide (0 ≤ z ∧ z < (nb : Int)) := ⟨_, rfl⟩
      have HHV := hid hhv
      have HQ := hid (rngHas (.slice (some ⟨b1, o1, none⟩) n1 cap1) (.slice a2 n2 cap2) bl z (w.alloc (.cells #[.slice (some ⟨b1, o1, none⟩) n1 cap1, .slice a2 n2 cap2] 25)) (HSL.out.below (Below.alloc (Below.refl _ _) (Nat.le_refl _) _)))
      rw [HNB.out, ← hhv] at HQ
      clear hhv
      by_cases hz : 0 ≤ z ∧ z < (nb : Int)
      · have hvt : hv = true := by rw [HHV.out]; exact decide_eq_true hz
        obtain ⟨hz0, hz1⟩ := hz
        obtain ⟨q, rfl⟩ := Int.eq_ofNat_of_zero_le hz0
        have hq : q < nb := by omega
        rw [if_pos ⟨hg1, by omega, by omega⟩, Int.toNat_natCast]
        rcases H2.out with hcap | ⟨b2, o2, rfl, hb2, c2⟩
        · exfalso; omega
        have d2 := c2 (256 * q + r) (by omega)
        have hb2' := hb2 (by omega)
        have HD2 : Hid (∀ wz, Below w.heap.size w wz → wz.cell? ⟨b2, o2 + (256 * q + r), none⟩ = some (.int .i64 (bl.getD (256 * q + r) 0))) := hid (fun wz hb => (hb.cell (p := ⟨b2, o2 + (256 * q + r), none⟩) hb2').trans d2)
        clear c2 hb2 d2 H2
        generalize bl.getD (256 * q + r) 0 = y at HD2 ⊢
        obtain ⟨at_, hat⟩ : ∃ a, a = 256 * q + r := ⟨_, rfl⟩
        rw [← hat] at HD2
        have w4 : (q : Int) * 256 + (r : Int) = (at_ : Int) := by omega
        have hatn : at_ < n2 := by omega
        clear hat
        subst hvt
        have HB0 : Hid (Below w.heap.size w (w.alloc (.cells #[.slice (some ⟨b1, o1, none⟩) n1 cap1, .slice (some ⟨b2, o2, none⟩) n2 cap2] 25))) := hid (by (repeat (first | exact Below.refl _ _ | exact below_drewN _ | refine Below.drew ?_ | refine Below.alloc ?_ (by first | omega | (simp; done) | (simp; omega)) _ | refine Below.setCell ?_ (by first | (simp; done) | (simp; omega)) _ | refine below_drewN' ?_ _)))
        have hbx := Box.made w 25 [.slice (some ⟨b1, o1, none⟩) n1 cap1, .slice (some ⟨b2, o2, none⟩) n2 cap2]
        have x0 := hbx.cell 0
        have x1 := hbx.cell 1
        simp only [List.getElem?_cons_zero, List.getElem?_cons_succ] at x0 x1
        have HX : Hid (∀ wz, Below (w.alloc (.cells #[.slice (some ⟨b1, o1, none⟩) n1 cap1, .slice (some ⟨b2, o2, none⟩) n2 cap2] 25)).heap.size (w.alloc (.cells #[.slice (some ⟨b1, o1, none⟩) n1 cap1, .slice (some ⟨b2, o2, none⟩) n2 cap2] 25)) wz → wz.cell? ⟨w.heap.size, 1, none⟩ = some (.slice (some ⟨b2, o2, none⟩) n2 cap2)) := hid (fun wz hb => (hb.cell (p := ⟨w.heap.size, 1, none⟩) (by simp)).trans x1)
        go_enter Try.func11, Try.ntmps11
        go_wp2_with (go_at_call 26; refine HQ.out.mono ?_; rintro e w3 ⟨rfl, hb3⟩; have y1 := HX.out w3 hb3; have y2 := HD2.out w3 (HB0.out.trans (hb3.mono (by simp))); have HB3 := hid (HB0.out.trans (hb3.mono (by simp))))
        go_ret
        exact ⟨rfl, HB3.out⟩
      · have hvf : hv = false := by rw [HHV.out]; exact decide_eq_false hz
        rw [if_neg (fun h => hz h.2)]
        subst hvf
        clear hz
        have HB0 : Hid (Below w.heap.size w (w.alloc (.cells #[.slice (some ⟨b1, o1, none⟩) n1 cap1, .slice a2 n2 cap2] 25))) := hid (by (repeat (first | exact Below.refl _ _ | exact below_drewN _ | refine Below.drew ?_ | refine Below.alloc ?_ (by first | omega | (simp; done) | (simp; omega)) _ | refine Below.setCell ?_ (by first | (simp; done) | (simp; omega)) _ | refine below_drewN' ?_ _)))
        go_enter Try.func11, Try.ntmps11
        go_wp2_with (go_at_call 26; refine HQ.out.mono ?_; rintro e w3 ⟨rfl, hb3⟩; have HB3 := hid (HB0.out.trans (hb3.mono (by simp))))
        go_ret
        exact ⟨rfl, HB3.out⟩
    · rw [if_neg (by omega)]
      go_enter Try.func11, Try.ntmps11
      go_wp2
      go_ret
      exact ⟨rfl, by (repeat (first | exact Below.refl _ _ | exact below_drewN _ | refine Below.drew ?_ | refine Below.alloc ?_ (by first | omega | (simp; done) | (simp; omega)) _ | refine Below.setCell ?_ (by first | (simp; done) | (simp; omega)) _ | refine below_drewN' ?_ _))⟩
  · have hr : getS ix bl c = 0 := by unfold getS maxS; rw [if_neg (by omega)]
    rw [hr]
    by_cases hc0 : c < 0
    · clear hc hr
      go_enter Try.func11, Try.ntmps11
      go_wp2
      go_ret
      exact ⟨rfl, by (repeat (first | exact Below.refl _ _ | exact below_drewN _ | refine Below.drew ?_ | refine Below.alloc ?_ (by first | omega | (simp; done) | (simp; omega)) _ | refine Below.setCell ?_ (by first | (simp; done) | (simp; omega)) _ | refine below_drewN' ?_ _))⟩
    · have hc1 : 1114111 < c := by omega
      clear hc hr
      go_enter Try.func11, Try.ntmps11
      go_wp2
      go_ret
      exact ⟨rfl, by (repeat (first | exact Below.refl _ _ | exact below_drewN _ | refine Below.drew ?_ | refine Below.alloc ?_ (by first | omega | (simp; done) | (simp; omega)) _ | refine Below.setCell ?_ (by first | (simp; done) | (simp; omega)) _ | refine below_drewN' ?_ _))⟩
end Go.Proofs.Ytlngnmcflooccaa
