/- Walk of law07's HangulNone, out of what is asked of package hangul. -/
import Derived.Test.YtcjfjbddooicjaaHangOk
import Derived.Deep.CutRange
namespace Go.Proofs.Ytcjfjbddooicjaa
open Go.RowKit

theorem tmod_in (x : Int) : -196608 < x.tmod 196608 ∧ x.tmod 196608 < 196608 :=
  ⟨Int.lt_tmod_of_pos x (by decide), Int.tmod_lt_of_pos x (by decide)⟩
set_option maxHeartbeats 4000000 in
theorem walkNone7 (HS : SplitOk) (HJ : JoinOk) (a b : Int) (w : World) :
    Calls Try.prog 5 #[.int .i64 a, .int .i64 b] w fun e w' => e = .returned (.bool true) ∧ Below w.heap.size w w' := by
  have HW := hid (fun w => lawWakes7 HS HJ w)
  have H2 := hid (fun w => HJ 4449 4352 w (i64n (by decide) (by decide)) (i64n (by decide) (by decide)))
  rw [show joinS 4449 4352 = (0, false) from by decide] at H2
  have H3 := hid (fun w => HJ 44032 4519 w (i64n (by decide) (by decide)) (i64n (by decide) (by decide)))
  rw [show joinS 44032 4519 = (0, false) from by decide] at H3
  have HSS := hid HS
  have HJJ := hid HJ
  clear HS HJ
  go_enter Try.func5, Try.ntmps5
  go_upto_region 2 with (fail)
  obtain ⟨b0, b1⟩ := tmod_in b
  obtain ⟨a0, a1⟩ := tmod_in a
  generalize a.tmod 196608 = A at a0 a1 ⊢
  generalize b.tmod 196608 = B at b0 b1 ⊢
  by_cases h1 : 44032 ≤ A ∧ A < 55204
  · obtain ⟨h1, h2⟩ := h1
    have HJ1 := hid (fun w => HJJ.out (A - 11172) B w (i64n (by omega) (by omega)) (i64n (by omega) (by omega)))
    rw [join_none (by omega) (by omega)] at HJ1
    have HS1 := hid (fun w => HSS.out (A - 11172) w (i64n (by omega) (by omega)))
    rw [splitS_out (by omega)] at HS1
    go_wp2_with (first
      | (have _u := HB2; clear _u; go_at_call 6; refine (H3.out _).mono ?_; rintro e w3 ⟨rfl, hb3⟩; have HB3 := hid (HB2.out.trans (hb3.mono HB2.out.size)); clear hb3)
      | (have _u := HB1; clear _u; go_at_call 6; refine (H2.out _).mono ?_; rintro e w2 ⟨rfl, hb2⟩; have HB2 := hid (HB1.out.trans (hb2.mono HB1.out.size)); clear hb2)
      | (go_at_call 6; refine (HJ1.out _).mono ?_; rintro e w1 ⟨rfl, hb1⟩; have HB1 := hid hb1; clear hb1)
      | (go_at_call 9; refine (HS1.out _).mono ?_; rintro e w4 ⟨v4, rfl, ho4, hb4⟩; obtain ⟨a4, c4, rfl⟩ := ho4.form; have HB4 := hid (HB3.out.trans (hb4.mono HB3.out.size)); clear ho4 hb4)
      | (go_at_call 11; refine (HW.out _).mono ?_; rintro e w5 ⟨rfl, hb5⟩; have HB5 := hid (HB4.out.trans (hb5.mono HB4.out.size)); clear hb5))
    go_ret
    exact ⟨rfl, HB5.out⟩
  · by_cases h2 : 4352 ≤ A ∧ A ≤ 4370
    · obtain ⟨h2, h3⟩ := h2
      have HJ1 := hid (fun w => HJJ.out (A + 19) B w (i64n (by omega) (by omega)) (i64n (by omega) (by omega)))
      rw [join_none (by omega) (by omega)] at HJ1
      have HS1 := hid (fun w => HSS.out (A + 19) w (i64n (by omega) (by omega)))
      rw [splitS_out (by omega)] at HS1
      go_wp2_with (first
        | (have _u := HB2; clear _u; go_at_call 6; refine (H3.out _).mono ?_; rintro e w3 ⟨rfl, hb3⟩; have HB3 := hid (HB2.out.trans (hb3.mono HB2.out.size)); clear hb3)
        | (have _u := HB1; clear _u; go_at_call 6; refine (H2.out _).mono ?_; rintro e w2 ⟨rfl, hb2⟩; have HB2 := hid (HB1.out.trans (hb2.mono HB1.out.size)); clear hb2)
        | (go_at_call 6; refine (HJ1.out _).mono ?_; rintro e w1 ⟨rfl, hb1⟩; have HB1 := hid hb1; clear hb1)
        | (go_at_call 9; refine (HS1.out _).mono ?_; rintro e w4 ⟨v4, rfl, ho4, hb4⟩; obtain ⟨a4, c4, rfl⟩ := ho4.form; have HB4 := hid (HB3.out.trans (hb4.mono HB3.out.size)); clear ho4 hb4)
        | (go_at_call 11; refine (HW.out _).mono ?_; rintro e w5 ⟨rfl, hb5⟩; have HB5 := hid (HB4.out.trans (hb5.mono HB4.out.size)); clear hb5))
      go_ret
      exact ⟨rfl, HB5.out⟩
    · by_cases h3 : 44032 ≤ A
      · have h4 : 55204 ≤ A := by omega
        clear h1 h2
        have HJ1 := hid (fun w => HJJ.out (A) B w (i64n (by omega) (by omega)) (i64n (by omega) (by omega)))
        rw [join_none (by omega) (by omega)] at HJ1
        have HS1 := hid (fun w => HSS.out (A) w (i64n (by omega) (by omega)))
        rw [splitS_out (by omega)] at HS1
        go_wp2_with (first
          | (have _u := HB2; clear _u; go_at_call 6; refine (H3.out _).mono ?_; rintro e w3 ⟨rfl, hb3⟩; have HB3 := hid (HB2.out.trans (hb3.mono HB2.out.size)); clear hb3)
          | (have _u := HB1; clear _u; go_at_call 6; refine (H2.out _).mono ?_; rintro e w2 ⟨rfl, hb2⟩; have HB2 := hid (HB1.out.trans (hb2.mono HB1.out.size)); clear hb2)
          | (go_at_call 6; refine (HJ1.out _).mono ?_; rintro e w1 ⟨rfl, hb1⟩; have HB1 := hid hb1; clear hb1)
          | (go_at_call 9; refine (HS1.out _).mono ?_; rintro e w4 ⟨v4, rfl, ho4, hb4⟩; obtain ⟨a4, c4, rfl⟩ := ho4.form; have HB4 := hid (HB3.out.trans (hb4.mono HB3.out.size)); clear ho4 hb4)
          | (go_at_call 11; refine (HW.out _).mono ?_; rintro e w5 ⟨rfl, hb5⟩; have HB5 := hid (HB4.out.trans (hb5.mono HB4.out.size)); clear hb5))
        go_ret
        exact ⟨rfl, HB5.out⟩
      · by_cases h5 : 4352 ≤ A
        · have h6 : 4370 < A := by omega
          clear h1 h2
          have HJ1 := hid (fun w => HJJ.out (A) B w (i64n (by omega) (by omega)) (i64n (by omega) (by omega)))
          rw [join_none (by omega) (by omega)] at HJ1
          have HS1 := hid (fun w => HSS.out (A) w (i64n (by omega) (by omega)))
          rw [splitS_out (by omega)] at HS1
          go_wp2_with (first
            | (have _u := HB2; clear _u; go_at_call 6; refine (H3.out _).mono ?_; rintro e w3 ⟨rfl, hb3⟩; have HB3 := hid (HB2.out.trans (hb3.mono HB2.out.size)); clear hb3)
            | (have _u := HB1; clear _u; go_at_call 6; refine (H2.out _).mono ?_; rintro e w2 ⟨rfl, hb2⟩; have HB2 := hid (HB1.out.trans (hb2.mono HB1.out.size)); clear hb2)
            | (go_at_call 6; refine (HJ1.out _).mono ?_; rintro e w1 ⟨rfl, hb1⟩; have HB1 := hid hb1; clear hb1)
            | (go_at_call 9; refine (HS1.out _).mono ?_; rintro e w4 ⟨v4, rfl, ho4, hb4⟩; obtain ⟨a4, c4, rfl⟩ := ho4.form; have HB4 := hid (HB3.out.trans (hb4.mono HB3.out.size)); clear ho4 hb4)
            | (go_at_call 11; refine (HW.out _).mono ?_; rintro e w5 ⟨rfl, hb5⟩; have HB5 := hid (HB4.out.trans (hb5.mono HB4.out.size)); clear hb5))
          go_ret
          exact ⟨rfl, HB5.out⟩
        · clear h1 h2
          have HJ1 := hid (fun w => HJJ.out (A) B w (i64n (by omega) (by omega)) (i64n (by omega) (by omega)))
          rw [join_none (by omega) (by omega)] at HJ1
          have HS1 := hid (fun w => HSS.out (A) w (i64n (by omega) (by omega)))
          rw [splitS_out (by omega)] at HS1
          go_wp2_with (first
            | (have _u := HB2; clear _u; go_at_call 6; refine (H3.out _).mono ?_; rintro e w3 ⟨rfl, hb3⟩; have HB3 := hid (HB2.out.trans (hb3.mono HB2.out.size)); clear hb3)
            | (have _u := HB1; clear _u; go_at_call 6; refine (H2.out _).mono ?_; rintro e w2 ⟨rfl, hb2⟩; have HB2 := hid (HB1.out.trans (hb2.mono HB1.out.size)); clear hb2)
            | (go_at_call 6; refine (HJ1.out _).mono ?_; rintro e w1 ⟨rfl, hb1⟩; have HB1 := hid hb1; clear hb1)
            | (go_at_call 9; refine (HS1.out _).mono ?_; rintro e w4 ⟨v4, rfl, ho4, hb4⟩; obtain ⟨a4, c4, rfl⟩ := ho4.form; have HB4 := hid (HB3.out.trans (hb4.mono HB3.out.size)); clear ho4 hb4)
            | (go_at_call 11; refine (HW.out _).mono ?_; rintro e w5 ⟨rfl, hb5⟩; have HB5 := hid (HB4.out.trans (hb5.mono HB4.out.size)); clear hb5))
          go_ret
          exact ⟨rfl, HB5.out⟩
end Go.Proofs.Ytcjfjbddooicjaa
