/- Contracts of the document's in and Get: what a two-stage table says of a number. -/
import Derived.Test.YtlngnmcflooccaaRngSpec
import Derived.Test.YtlngnmcflooccaaKeepInts
namespace Go.Proofs.Ytlngnmcflooccaa
open Go.RowKit

theorem refIn5 (n lo hi : Int) (w : World) :
    Calls Try.prog 27 #[.int .i64 n, .int .i64 lo, .int .i64 hi] w fun e w' => e = .returned (.bool (decide (lo ≤ n ∧ n ≤ hi))) ∧ w = w' := by
  go_enter Try.func27, Try.ntmps27
  by_cases h1 : lo ≤ n
  · by_cases h2 : n ≤ hi
    · go_wp2
      go_ret
      exact ⟨by simp [h1, h2], rfl⟩
    · go_wp2
      go_ret
      exact ⟨by simp [h2], rfl⟩
  · go_wp2
    go_ret
    exact ⟨by rw [show decide (lo ≤ n) = false from decide_eq_false (by omega)]; rfl, rfl⟩
set_option maxHeartbeats 1000000 in
theorem refGet (u1 u2 : Value) (ix bl : List Int) (c : Int) (w : World) (h1 : Sl .i64 w u1 ix) (h2 : Sl .i64 w u2 bl) :
    Calls Try.prog 12 #[.agg #[u1, u2], .int .i64 c] w fun e w' => e = .returned (.int .i64 (getS ix bl c)) ∧ Below w.heap.size w w' := by
  have m1 := h1.len
  have m2 := h2.len
  obtain ⟨a1, cap1, rfl, k1, -, h1⟩ := h1
  obtain ⟨a2, cap2, rfl, k2, -, h2⟩ := h2
  obtain ⟨n1, hn1⟩ : ∃ n, n = ix.length := ⟨_, rfl⟩
  obtain ⟨n2, hn2⟩ : ∃ n, n = bl.length := ⟨_, rfl⟩
  have H1 := hid h1
  have H2 := hid h2
  rw [← hn1] at H1 m1 k1 ⊢
  rw [← hn2] at H2 m2 k2 ⊢
  have HN := hid (show n1 = ix.length ∧ n2 = bl.length from ⟨hn1, hn2⟩)
  clear h1 h2 hn1 hn2
  by_cases hc : 0 ≤ c ∧ c ≤ 1114111
  · have hdec : decide ((0 : Int) ≤ c ∧ c ≤ 1114111) = true := decide_eq_true hc
    obtain ⟨hc0, hc1⟩ := hc
    obtain ⟨k, rfl⟩ := Int.eq_ofNat_of_zero_le hc0
    obtain ⟨g, hg⟩ : ∃ g, g = k / 256 := ⟨_, rfl⟩
    obtain ⟨r, hr⟩ : ∃ r, r = k % 256 := ⟨_, rfl⟩
    have w1 : (k : Int) / 256 = (g : Int) := by omega
    have w2 : (k : Int) % 256 = (r : Int) := by omega
    have hr256 : r < 256 := by omega
    obtain ⟨nb, hnb⟩ : ∃ nb, nb = n2 / 256 := ⟨_, rfl⟩
    have w3 : (n2 : Int) / 256 = (nb : Int) := by omega
    have hnb2 : nb * 256 ≤ n2 := by omega
    have HS : Hid (getS ix bl (k : Int) = if g < n1 ∧ 0 ≤ ix.getD g 0 ∧ ix.getD g 0 < (nb : Int) then bl.getD (256 * (ix.getD g 0).toNat + r) 0 else 0) := hid (by
      unfold getS maxS
      rw [show ((k : Int) / 256).toNat = g by omega, show ((k : Int) % 256).toNat = r by omega, ← HN.out.1, ← HN.out.2, ← hnb]
      by_cases hh : g < n1 ∧ 0 ≤ ix.getD g 0 ∧ ix.getD g 0 < (nb : Int)
      · rw [if_pos hh, if_pos ⟨by omega, by omega, by omega, hh.2.1, hh.2.2⟩]
      · rw [if_neg hh, if_neg (by omega)])
    rw [HS.out]
    have HD := hid hdec
    clear hg hr hnb hdec HS
    by_cases hg1 : g < n1
    · rcases H1.out with hcap | ⟨b1, o1, rfl, hb1, c1⟩
      · exfalso; omega
      have d1 := c1 g hg1
      have hb1' := hb1 (by omega)
      have d1' : (w.alloc (.cells #[.slice (some ⟨b1, o1, none⟩) n1 cap1, .slice a2 n2 cap2] 25)).cell? ⟨b1, o1 + g, none⟩ = some (.int .i64 (ix.getD g 0)) := ((Below.alloc (Below.refl w.heap.size w) (Nat.le_refl _) _).cell (p := ⟨b1, o1 + g, none⟩) hb1').trans d1
      clear c1 hb1 d1 H1
      generalize ix.getD g 0 = z at d1' ⊢
      by_cases hz0 : z < 0
      · rw [if_neg (by omega)]
        go_enter Try.func12, Try.ntmps12
        go_wp2_with (go_at_call 27; refine (refIn5 (k : Int) 0 1114111 _).mono ?_; rw [HD.out]; rintro e w3 ⟨rfl, rfl⟩)
        go_ret
        exact ⟨rfl, by (repeat (first | exact Below.refl _ _ | exact below_drewN _ | refine Below.drew ?_ | refine Below.alloc ?_ (by first | omega | (simp; done) | (simp; omega)) _ | refine Below.setCell ?_ (by first | (simp; done) | (simp; omega)) _ | refine below_drewN' ?_ _))⟩
      · obtain ⟨q, rfl⟩ := Int.eq_ofNat_of_zero_le (show 0 ≤ z by omega)
        by_cases hq : q < nb
        · rw [if_pos ⟨hg1, by omega, by omega⟩, Int.toNat_natCast]
          rcases H2.out with hcap | ⟨b2, o2, rfl, hb2, c2⟩
          · exfalso; omega
          have d2 := c2 (256 * q + r) (by omega)
          have hb2' := hb2 (by omega)
          have d2' : (w.alloc (.cells #[.slice (some ⟨b1, o1, none⟩) n1 cap1, .slice (some ⟨b2, o2, none⟩) n2 cap2] 25)).cell? ⟨b2, o2 + (256 * q + r), none⟩ = some (.int .i64 (bl.getD (256 * q + r) 0)) := ((Below.alloc (Below.refl w.heap.size w) (Nat.le_refl _) _).cell (p := ⟨b2, o2 + (256 * q + r), none⟩) hb2').trans d2
          clear c2 hb2 d2 H2
          generalize bl.getD (256 * q + r) 0 = y at d2' ⊢
          obtain ⟨at_, hat⟩ : ∃ a, a = 256 * q + r := ⟨_, rfl⟩
          rw [← hat] at d2'
          have w4 : (256 : Int) * (q : Int) + (r : Int) = (at_ : Int) := by omega
          have hatn : at_ < n2 := by omega
          clear hat
          go_enter Try.func12, Try.ntmps12
          go_wp2_with (go_at_call 27; refine (refIn5 (k : Int) 0 1114111 _).mono ?_; rw [HD.out]; rintro e w3 ⟨rfl, rfl⟩)
          go_ret
          exact ⟨rfl, by (repeat (first | exact Below.refl _ _ | exact below_drewN _ | refine Below.drew ?_ | refine Below.alloc ?_ (by first | omega | (simp; done) | (simp; omega)) _ | refine Below.setCell ?_ (by first | (simp; done) | (simp; omega)) _ | refine below_drewN' ?_ _))⟩
        · rw [if_neg (by omega)]
          go_enter Try.func12, Try.ntmps12
          go_wp2_with (go_at_call 27; refine (refIn5 (k : Int) 0 1114111 _).mono ?_; rw [HD.out]; rintro e w3 ⟨rfl, rfl⟩)
          go_ret
          exact ⟨rfl, by (repeat (first | exact Below.refl _ _ | exact below_drewN _ | refine Below.drew ?_ | refine Below.alloc ?_ (by first | omega | (simp; done) | (simp; omega)) _ | refine Below.setCell ?_ (by first | (simp; done) | (simp; omega)) _ | refine below_drewN' ?_ _))⟩
    · rw [if_neg (by omega)]
      go_enter Try.func12, Try.ntmps12
      go_wp2_with (go_at_call 27; refine (refIn5 (k : Int) 0 1114111 _).mono ?_; rw [HD.out]; rintro e w3 ⟨rfl, rfl⟩)
      go_ret
      exact ⟨rfl, by (repeat (first | exact Below.refl _ _ | exact below_drewN _ | refine Below.drew ?_ | refine Below.alloc ?_ (by first | omega | (simp; done) | (simp; omega)) _ | refine Below.setCell ?_ (by first | (simp; done) | (simp; omega)) _ | refine below_drewN' ?_ _))⟩
  · have hdec : decide ((0 : Int) ≤ c ∧ c ≤ 1114111) = false := decide_eq_false hc
    have hr : getS ix bl c = 0 := by unfold getS maxS; rw [if_neg (by omega)]
    rw [hr]
    have HD := hid hdec
    clear hc hdec hr
    go_enter Try.func12, Try.ntmps12
    go_wp2_with (go_at_call 27; refine (refIn5 c 0 1114111 _).mono ?_; rw [HD.out]; rintro e w3 ⟨rfl, rfl⟩)
    go_ret
    exact ⟨rfl, by (repeat (first | exact Below.refl _ _ | exact below_drewN _ | refine Below.drew ?_ | refine Below.alloc ?_ (by first | omega | (simp; done) | (simp; omega)) _ | refine Below.setCell ?_ (by first | (simp; done) | (simp; omega)) _ | refine below_drewN' ?_ _))⟩
end Go.Proofs.Ytlngnmcflooccaa
