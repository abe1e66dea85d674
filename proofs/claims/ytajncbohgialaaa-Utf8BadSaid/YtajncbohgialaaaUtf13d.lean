/- Contract of package utf8: One. No conditions. -/
import Derived.Test.YtajncbohgialaaaUtf13c
namespace Go.Proofs.Ytajncbohgialaaa
open Go.RowKit

theorem or_i64_6 (t b : Int) (ht : 0 ≤ t) (hb : 0 ≤ b) (hn : b < 64) (hs : t ≤ 1000000000000000) : bits .or .i64 (t * 64) b = t * 64 + b := or_i64 6 t b ht hb hn (by omega)

set_option maxRecDepth 100000 in
set_option maxHeartbeats 4000000 in
theorem utfOne : UOneOk := by
  intro v b w hs hu hlen
  have ml := hs.len
  obtain ⟨a1, cap1, rfl, q1, -, h1⟩ := hs
  cases b with
  | nil =>
    clear h1
    go_enter Try.func11, Try.ntmps11
    go_wp2
    go_ret2
    exact ⟨rfl, Below.refl _ _⟩
  | cons c0 r =>
    have hc0 := hu c0 (List.mem_cons_self ..)
    have hur : U8 r := fun x hx => hu x (List.mem_cons_of_mem _ hx)
    rcases h1 with hcc | ⟨b1, o1, rfl, hb1, hc⟩
    · simp at q1
      omega
    have d0 := hc 0 (by simp)
    simp only [List.getD_cons_zero, Nat.add_zero] at d0
    obtain ⟨n, hn⟩ : ∃ n, n = (c0 :: r).length := ⟨_, rfl⟩
    have HN1 := hid (show n = r.length + 1 by rw [hn]; simp)
    have HC := hid (fun j (hj : j < r.length) => (show w.cell? ⟨b1, o1 + (j + 1), none⟩ = some (.int .u8 (r.getD j 0)) from by
      have := hc (j + 1) (by simp; omega)
      simpa using this))
    have HU := hid (fun j (hj : j < r.length) => U8.get hur j)
    have hn0 : 0 < n := by rw [hn]; simp
    have hnz : ((n : Int) == 0) = false := by simp; omega
    rw [← hn] at ml q1 hlen ⊢
    clear hc hb1 hn hu hur
    by_cases k1 : c0 < 128
    · have HR := hid (show u8one (c0 :: r) = (c0, 1) by rw [u8one, if_pos k1])
      have HB := hid (show beginS c0 = (1, c0) by simp [beginS, k1])
      have HS := hid (scalar_t (c := c0) (by omega))
      have HL := hid (show (u8enc c0).length = 1 by simp [u8enc, k1])
      have hn1 : ((1 : Int) > (n : Int)) = False := by simp; omega
      go_enter Try.func11, Try.ntmps11
      go_wp2_with (go_at_call 22; refine (utfBegin c0 _ (by omega) (by omega)).mono ?_; rw [HB.out]; rintro e w1 ⟨rfl, rfl⟩)
      go_loopw [2, 3, 4] (fun cv nv iv wr => cv = .int .i64 c0 ∧ nv = .int .i64 1 ∧ iv = .int .i64 1 ∧ wr = w) (fun _ _ _ _ => 0)
      case atStart => exact ⟨rfl, rfl, rfl, rfl⟩
      case round =>
        obtain ⟨rfl, rfl, rfl, rfl⟩ := hrel
        go_wp2_with (first
          | (go_at_call 23; refine (utfLength c0 _).mono ?_; rw [HL.out]; rintro e w1 ⟨rfl, rfl⟩)
          | (go_at_call 20; refine (ucdScalar c0 _).mono ?_; rw [HS.out]; rintro e w1 ⟨rfl, rfl⟩))
        go_ret2
        exact ⟨by rw [HR.out]; rfl, Below.refl _ _⟩
    obtain ⟨k, hk⟩ : ∃ k, k = (lead c0).1 := ⟨_, rfl⟩
    obtain ⟨x0, hx0⟩ : ∃ x0, x0 = (lead c0).2 := ⟨_, rfl⟩
    have el : lead c0 = (k, x0) := by rw [hk, hx0]
    by_cases k2 : k = 0
    · have HR := hid (one_few (r := r) k1 (.inl (by rw [el]; exact k2)))
      have HB := hid (show beginS c0 = (0, 0) by unfold beginS; rw [if_neg k1, if_pos (by rw [el]; exact k2)])
      clear hk hx0 el k2 k1
      go_enter Try.func11, Try.ntmps11
      go_wp2_with (go_at_call 22; refine (utfBegin c0 _ (by omega) (by omega)).mono ?_; rw [HB.out]; rintro e w1 ⟨rfl, rfl⟩)
      go_ret2
      exact ⟨by rw [HR.out]; rfl, Below.refl _ _⟩
    have HB := hid (show beginS c0 = (k, x0) by unfold beginS; rw [if_neg k1, if_neg (by rw [el]; exact k2), el])
    have hkx : 2 ≤ k ∧ k ≤ 4 ∧ 0 ≤ x0 ∧ x0 < 32 := by
      by_cases j2 : 192 ≤ c0 ∧ c0 < 224
      · rw [lead_2 j2.1 j2.2] at hk hx0
        simp only at hk hx0
        omega
      by_cases j3 : 224 ≤ c0 ∧ c0 < 240
      · rw [lead_3 j3.1 j3.2] at hk hx0
        simp only at hk hx0
        omega
      by_cases j4 : 240 ≤ c0 ∧ c0 < 248
      · rw [lead_4 j4.1 j4.2] at hk hx0
        simp only at hk hx0
        omega
      · rw [lead_0 (by omega)] at hk
        exact absurd hk k2
    obtain ⟨hk2, hk4, hx1, hx2⟩ := hkx
    have hkz : ((k : Int) == 0) = false := by simp; omega
    by_cases hN : n < k
    · have HR := hid (one_few (r := r) k1 (.inr (by rw [el]; have := HN1.out; simp only; omega)))
      clear hk hx0 el k2 k1
      go_enter Try.func11, Try.ntmps11
      go_wp2_with (go_at_call 22; refine (utfBegin c0 _ (by omega) (by omega)).mono ?_; rw [HB.out]; rintro e w1 ⟨rfl, rfl⟩)
      go_ret2
      exact ⟨by rw [HR.out]; rfl, Below.refl _ _⟩
    · have HL := hid (show ¬ ((lead c0).1 = 0 ∨ r.length + 1 < (lead c0).1) by rw [el]; have := HN1.out; simp only; omega)
      have HNone := hid (fun j (hj : j ≤ k - 1) (h : cont x0 (r.take j) = none) => one_none (r := r) k1 HL.out (by rw [el]; exact cont_stop hj h))
      have HSome := hid (fun c (h : cont x0 (r.take (k - 1)) = some c) => (show u8one (c0 :: r) = if scalarB c = true ∧ (u8enc c).length = k then (c, k) else (0, 0) from by
        have := one_some (r := r) k1 HL.out (c := c) (by rw [el]; exact h)
        rw [el] at this
        exact this))
      clear hk hx0 el k2 k1
      go_enter Try.func11, Try.ntmps11
      go_wp2_with (go_at_call 22; refine (utfBegin c0 _ (by omega) (by omega)).mono ?_; rw [HB.out]; rintro e w1 ⟨rfl, rfl⟩)
      go_loopw [2, 3, 4] (fun cv nv iv wr => ∃ (i j : Nat) (c : Int), i = j + 1 ∧ i ≤ k ∧ iv = .int .i64 i ∧ nv = .int .i64 k ∧ cv = .int .i64 c ∧ (∃ q, wr = w.drewN q) ∧ Hid (cont x0 (r.take j) = some c) ∧ 0 ≤ c ∧ Hid ((j = 0 ∧ c < 32) ∨ (j = 1 ∧ c < 2048) ∨ (j = 2 ∧ c < 131072) ∨ (j = 3 ∧ c < 8388608))) (fun _ _ iv _ => k - (intOf iv).toNat)
      case atStart => exact ⟨1, 0, x0, rfl, by omega, rfl, rfl, rfl, ⟨0, rfl⟩, by show cont x0 (r.take 0) = some x0; rfl, hx1, .inl ⟨rfl, hx2⟩⟩
      case round =>
        obtain ⟨i, j, c, hij, hiN, rfl, rfl, rfl, ⟨q, rfl⟩, hcont, hc1, hbnd⟩ := hrel
        by_cases hlt : i < k
        · have hjr : j < r.length := by have := HN1.out; omega
          have d1 : w.cell? ⟨b1, o1 + i, none⟩ = some (.int .u8 (r.getD j 0)) := by rw [hij]; exact HC.out j hjr
          have hin : i < n := by omega
          have hd := HU.out j hjr
          have HNX := hid (cont_next hjr hcont.out)
          generalize r.getD j 0 = d at d1 hd HNX
          have e1 := not_63 d hd.1 hd.2
          have e2 := and_63 d hd.1 hd.2
          have cub : c < 131072 := by have := hbnd.out; omega
          have e3 := or_i64_6 c (d % 64) hc1 (by omega) (by omega) (by omega)
          by_cases t1 : d < 128
          · have HR := hid (HNone.out (j + 1) (by omega) (by rw [HNX.out, if_pos (.inl t1)]))
            have e4 : (d / 64 * 64 != 128) = true := by simp; omega
            clear hij
            go_wp2
            go_ret2
            exact ⟨by rw [HR.out]; rfl, below_drewN _⟩
          by_cases t2 : 192 ≤ d
          · have HR := hid (HNone.out (j + 1) (by omega) (by rw [HNX.out, if_pos (.inr t2)]))
            have e4 : (d / 64 * 64 != 128) = true := by simp; omega
            clear hij
            go_wp2
            go_ret2
            exact ⟨by rw [HR.out]; rfl, below_drewN _⟩
          · have HS := hid (show cont x0 (r.take (j + 1)) = some (64 * c + d - 128) by rw [HNX.out, if_neg (by omega)])
            have HB := hid hbnd.out
            have HIJ := hid hij
            have e4 : (d / 64 * 64 != 128) = false := by simp; omega
            clear hij
            go_wp2
            go_roundw
            case rel => exact ⟨i + 1, j + 1, 64 * c + d - 128, by have := HIJ.out; omega, by omega, by go_num, rfl, by congr 1; omega, ⟨_, rfl⟩, HS.out, by omega, by show _ ∨ _; have := HB.out; have := HIJ.out; omega⟩
            case measure => simp [intOf]; omega
        · obtain rfl : i = k := by omega
          obtain rfl : j = i - 1 := by omega
          have HR := hid (HSome.out c hcont.out)
          obtain ⟨m, hm⟩ : ∃ m, m = (u8enc c).length := ⟨_, rfl⟩
          have HM := hid hm
          obtain ⟨sc, hsc⟩ : ∃ sc, sc = scalarB c := ⟨_, rfl⟩
          have HSC := hid hsc
          clear HSome HNone hbnd hij
          by_cases hmn : m = i
          · cases sc with
            | true =>
              have HRR := hid (show u8one (c0 :: r) = (c, i) by rw [HR.out, if_pos ⟨hsc.symm, by rw [← hm]; exact hmn⟩])
              clear hm hsc
              have hq : ((i : Int) != (m : Int)) = false := by simp; omega
              go_wp2_with (first
                | (go_at_call 23; refine (utfLength c _).mono ?_; rw [← HM.out]; rintro e w1 ⟨rfl, rfl⟩)
                | (go_at_call 20; refine (ucdScalar c _).mono ?_; rw [← HSC.out]; rintro e w1 ⟨rfl, rfl⟩))
              go_ret2
              exact ⟨by rw [HRR.out]; rfl, below_drewN _⟩
            | false =>
              have HRR := hid (show u8one (c0 :: r) = (0, 0) by rw [HR.out, if_neg (by rw [← hsc]; simp)])
              clear hm hsc
              have hq : ((i : Int) != (m : Int)) = false := by simp; omega
              go_wp2_with (first
                | (go_at_call 23; refine (utfLength c _).mono ?_; rw [← HM.out]; rintro e w1 ⟨rfl, rfl⟩)
                | (go_at_call 20; refine (ucdScalar c _).mono ?_; rw [← HSC.out]; rintro e w1 ⟨rfl, rfl⟩))
              go_ret2
              exact ⟨by rw [HRR.out]; rfl, below_drewN _⟩
          · have HRR := hid (show u8one (c0 :: r) = (0, 0) by rw [HR.out, if_neg (by rw [← hm]; exact fun h => hmn h.2)])
            clear hm hsc
            have hq : ((i : Int) != (m : Int)) = true := by simp; omega
            go_wp2_with (first
              | (go_at_call 23; refine (utfLength c _).mono ?_; rw [← HM.out]; rintro e w1 ⟨rfl, rfl⟩)
              | (go_at_call 20; refine (ucdScalar c _).mono ?_; rw [← HSC.out]; rintro e w1 ⟨rfl, rfl⟩))
            go_ret2
            exact ⟨by rw [HRR.out]; rfl, below_drewN _⟩
theorem utfGetOk : UGetOk := fun v b w hs hu hl => (utfGet utfOne v b w hs hu hl).mono fun _ _ ⟨x, h1, h2, h3⟩ => ⟨x, h1, h2.sl, h3⟩
end Go.Proofs.Ytajncbohgialaaa
