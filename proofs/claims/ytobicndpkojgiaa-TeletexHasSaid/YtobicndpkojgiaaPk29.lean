/- Several texts in one: Sh17q. -/
import Derived.Test.YtobicndpkojgiaaPk25
/-! Sh17q -/
namespace Go.Proofs.Ytobicndpkojgiaa
open Go.RowKit

theorem plS_R (z c : Int) (r : List Int) (hg : 128 ≤ c) : plS z (c :: r) = (if 33 ≤ c - 128 ∧ c - 128 ≤ 126 then (if z = 0 then .inr 12 else if z ≠ 87 then .inl ((z, c - 128), 1) else match r with | [] => .inr 2 | d :: _ => if 33 ≤ d - 128 ∧ d - 128 ≤ 126 then .inl ((z, 256 * (c - 128) + (d - 128)), 2) else .inr 11) else .inr 11) := by
  have hx : sdS c = 128 := by unfold sdS; rw [if_pos hg]
  simp only [plS, hx]
  rfl

set_option maxHeartbeats 4000000 in
set_option maxRecDepth 10000 in
theorem shCharR (HW : WideE) (v : Value) (c : Int) (r : List Int) (l rt : Int) (w : World) (hs : Sl .u8 w v (c :: r)) (hu : U8 (c :: r)) (hg : 128 ≤ c) :
    Calls Try.prog 68 #[v, .int .i64 l, .int .i64 rt] w fun e w' => e = PlE (plS rt (c :: r)) ∧ Below w.heap.size w w' := by
  rw [plS_R rt c r hg]
  obtain ⟨a1, cap1, rfl, q1, -, h1⟩ := hs
  rcases h1 with h1 | ⟨b1, o1, rfl, hb1, hc⟩
  · simp at q1; omega
  have hb1' := hb1 (by simp)
  have HB0 : Hid (Below w.heap.size w (w.alloc (.cells #[.int .i64 0, .int .i64 0] 88))) := hid (by (repeat (first | exact Below.refl _ _ | exact below_drewN _ | refine Below.drew ?_ | refine Below.alloc ?_ (by simp) _ | refine Below.setCell ?_ (by simp) _ | refine below_drewN' ?_ _)))
  have HX := hid (Box.made w 88 [.int .i64 0, .int .i64 0])
  have d0 := (HB0.out.cell (p := ⟨b1, o1 + 0, none⟩) hb1').trans (hc 0 (by simp))
  simp only [List.getD_cons_zero, Nat.add_zero] at d0
  obtain ⟨c0, c1⟩ := hu c (by simp)
  have HIN := hid (fun w => shIn (c - 128) w)
  obtain ⟨p, hp⟩ : ∃ p, p = plB (c - 128) := ⟨_, rfl⟩
  rw [← hp] at HIN
  obtain ⟨n, hn⟩ : ∃ n, n = (c :: r).length := ⟨_, rfl⟩
  have h0 : 0 < n := by rw [hn]; simp
  rw [← hn]
  cases p with
  | false =>
    rw [if_neg (fun h => by rw [plB, decide_eq_true h] at hp; cases hp)]
    clear hc hb1 hb1' hp hn
    go_enter Try.func68, Try.ntmps68
    go_wp2_with (go_at_call 81; refine (HIN.out _).mono ?_; rintro e w1 ⟨rfl, rfl⟩)
    refine bodyPost_ret (results_tk3 rfl rfl (loadTk (Box.made w 88 [_, _]))) rfl ⟨rfl, by (repeat (first | exact Below.refl _ _ | exact below_drewN _ | refine Below.drew ?_ | refine Below.alloc ?_ (by simp) _ | refine Below.setCell ?_ (by simp) _ | refine below_drewN' ?_ _))⟩
  | true =>
    rw [if_pos (by rw [plB] at hp; exact of_decide_eq_true hp.symm)]
    by_cases hz : rt = 0
    · rw [if_pos hz]
      have e1 : (rt == 0) = true := by simpa using hz
      clear hc hb1 hb1' hp hn hz
      go_enter Try.func68, Try.ntmps68
      go_wp2_with (go_at_call 81; refine (HIN.out _).mono ?_; rintro e w1 ⟨rfl, rfl⟩)
      refine bodyPost_ret (results_tk3 rfl rfl (loadTk (Box.made w 88 [_, _]))) rfl ⟨rfl, by (repeat (first | exact Below.refl _ _ | exact below_drewN _ | refine Below.drew ?_ | refine Below.alloc ?_ (by simp) _ | refine Below.setCell ?_ (by simp) _ | refine below_drewN' ?_ _))⟩
    · rw [if_neg hz]
      have e1 : (rt == 0) = false := by simpa using hz
      have HWD := hid (fun w => HW rt w)
      obtain ⟨q, hq⟩ : ∃ q, q = (rt == (87 : Int)) := ⟨_, rfl⟩
      rw [← hq] at HWD
      cases q with
      | false =>
        rw [if_pos (by simpa using hq.symm)]
        clear hc hb1 hb1' hp hn hz hq
        go_enter Try.func68, Try.ntmps68
        go_wp2_with (first
          | (go_at_call 81; refine (HIN.out _).mono ?_; rintro e w1 ⟨rfl, rfl⟩)
          | (go_at_call 18; refine (HWD.out _).mono ?_; rintro e w2 ⟨rfl, rfl⟩))
        refine bodyPost_ret (results_tk3 rfl rfl (loadTk (Box.made w 88 [_, _]))) rfl ⟨rfl, by (repeat (first | exact Below.refl _ _ | exact below_drewN _ | refine Below.drew ?_ | refine Below.alloc ?_ (by simp) _ | refine Below.setCell ?_ (by simp) _ | refine below_drewN' ?_ _))⟩
      | true =>
        have hz87 : rt = 87 := by simpa using hq.symm
        rw [if_neg (fun h => h hz87)]
        subst hz87
        clear e1
        cases r with
        | nil =>
          obtain rfl : n = 1 := by rw [hn]; rfl
          simp only
          clear hc hb1 hb1' hp hn hz hq hu
          go_enter Try.func68, Try.ntmps68
          go_wp2_with (first
            | (go_at_call 81; refine (HIN.out _).mono ?_; rintro e w1 ⟨rfl, rfl⟩)
            | (go_at_call 18; refine (HWD.out _).mono ?_; rintro e w2 ⟨rfl, rfl⟩))
          refine bodyPost_ret (results_tk3 rfl rfl (loadTk (Box.made w 88 [_, _]))) rfl ⟨rfl, by (repeat (first | exact Below.refl _ _ | exact below_drewN _ | refine Below.drew ?_ | refine Below.alloc ?_ (by simp) _ | refine Below.setCell ?_ (by simp) _ | refine below_drewN' ?_ _))⟩
        | cons d r' =>
          have h2 : 1 < n := by rw [hn]; simp
          have e2 : ((n : Int) == 1) = false := by simp; omega
          have d1 := (HB0.out.cell (p := ⟨b1, o1 + 1, none⟩) hb1').trans (hc 1 (by simp))
          simp only [List.getD_cons_succ, List.getD_cons_zero] at d1
          obtain ⟨c2, c3⟩ := hu d (by simp)
          have HI2 := hid (fun w => shIn (d - 128) w)
          obtain ⟨p2, hp2⟩ : ∃ p, p = plB (d - 128) := ⟨_, rfl⟩
          rw [← hp2] at HI2
          simp only
          cases p2 with
          | false =>
            rw [if_neg (fun h => by rw [plB, decide_eq_true h] at hp2; cases hp2)]
            clear hc hb1 hb1' hp hn hz hq hu hp2
            go_enter Try.func68, Try.ntmps68
            go_wp2_with (first
              | (go_at_call 81; refine (HI2.out _).mono ?_; rintro e w3 ⟨rfl, rfl⟩)
              | (go_at_call 81; refine (HIN.out _).mono ?_; rintro e w1 ⟨rfl, rfl⟩)
              | (go_at_call 18; refine (HWD.out _).mono ?_; rintro e w2 ⟨rfl, rfl⟩))
            refine bodyPost_ret (results_tk3 rfl rfl (loadTk (Box.made w 88 [_, _]))) rfl ⟨rfl, by (repeat (first | exact Below.refl _ _ | exact below_drewN _ | refine Below.drew ?_ | refine Below.alloc ?_ (by simp) _ | refine Below.setCell ?_ (by simp) _ | refine below_drewN' ?_ _))⟩
          | true =>
            have hp3 : 33 ≤ c - 128 ∧ c - 128 ≤ 126 := by rw [plB] at hp; exact of_decide_eq_true hp.symm
            have hp4 : 33 ≤ d - 128 ∧ d - 128 ≤ 126 := by rw [plB] at hp2; exact of_decide_eq_true hp2.symm
            rw [if_pos hp4]
            obtain ⟨hp3a, hp3b⟩ := hp3
            obtain ⟨hp4a, hp4b⟩ := hp4
            clear hc hb1 hb1' hp hn hz hq hu hp2
            go_enter Try.func68, Try.ntmps68
            go_wp2_with (first
              | (go_at_call 81; refine (HI2.out _).mono ?_; rintro e w3 ⟨rfl, rfl⟩)
              | (go_at_call 81; refine (HIN.out _).mono ?_; rintro e w1 ⟨rfl, rfl⟩)
              | (go_at_call 18; refine (HWD.out _).mono ?_; rintro e w2 ⟨rfl, rfl⟩))
            refine bodyPost_ret (results_tk3 rfl rfl (loadTk (Box.made w 88 [_, _]))) rfl ⟨rfl, by (repeat (first | exact Below.refl _ _ | exact below_drewN _ | refine Below.drew ?_ | refine Below.alloc ?_ (by simp) _ | refine Below.setCell ?_ (by simp) _ | refine below_drewN' ?_ _))⟩
end Go.Proofs.Ytobicndpkojgiaa
