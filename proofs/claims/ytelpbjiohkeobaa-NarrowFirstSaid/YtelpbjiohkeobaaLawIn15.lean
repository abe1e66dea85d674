/- Walk of law15's NarrowIn, out of what is asked of package narrow. -/
import Derived.Test.YtelpbjiohkeobaaNarOk
namespace Go.Proofs.Ytelpbjiohkeobaa
theorem narB_sub {c : Int} (h : narB 18 c = true) : narB 19 c = true := decide_eq_true (by have h := of_decide_eq_true h; omega)
open Go.RowKit

set_option maxRecDepth 10000 in
set_option maxHeartbeats 4000000 in
theorem walkIn15 (HP : NPutOk) (HG : NGetOk) (HH : NHasOk) (c : Int) (w : World) (hc : inI c = true) :
    Calls Try.prog 6 #[.int .i64 c] w fun e w' => e = .returned (.bool true) ∧ Below w.heap.size w w' := by
  have HW := hid (fun w => lawWakes15 HP HG HH w)
  have HB0 := hid (Below.refl w.heap.size w)
  have A18 := hid (fun w => HH 18 c w hc)
  have A19 := hid (fun w => HH 19 c w hc)
  have A26 := hid (fun w => HH 26 c w hc)
  have A22 := hid (fun w => HH 22 c w hc)
  have A12 := hid (fun w => HH 12 c w hc)
  rw [show narB 12 c = false from rfl] at A12
  by_cases g1 : c < 0
  · rw [show narB 18 c = false from decide_eq_false (by omega)] at A18
    rw [show narB 19 c = false from decide_eq_false (by omega)] at A19
    rw [show narB 26 c = false from decide_eq_false (by omega)] at A26
    rw [show narB 22 c = false from decide_eq_false (by omega)] at A22
    have h1 : ¬ 0 ≤ c := by omega
    have h2 : ¬ 32 ≤ c := by omega
    clear HP HG HH hc g1
    go_enter Try.func6, Try.ntmps6
    go_wp2_with (first
      | (have _u := HB5; clear _u; go_at_call 16; refine (HW.out _).mono ?_; rintro e w6 ⟨rfl, hb6⟩; have HB6 := hid (HB5.out.trans (hb6.mono HB5.out.size)); clear hb6)
      | (have _u := HB4; clear _u; go_at_call 12; with_reducible refine (A12.out _).mono ?_; rintro e w5 ⟨rfl, hb5⟩; have HB5 := hid (HB4.out.trans (hb5.mono HB4.out.size)); clear hb5)
      | (have _u := HB3; clear _u; go_at_call 12; with_reducible refine (A22.out _).mono ?_; rintro e w4 ⟨rfl, hb4⟩; have HB4 := hid (HB3.out.trans (hb4.mono HB3.out.size)); clear hb4)
      | (have _u := HB2; clear _u; go_at_call 12; with_reducible refine (A26.out _).mono ?_; rintro e w3 ⟨rfl, hb3⟩; have HB3 := hid (HB2.out.trans (hb3.mono HB2.out.size)); clear hb3)
      | (have _u := HB1; clear _u; go_at_call 12; with_reducible refine (A19.out _).mono ?_; rintro e w2 ⟨rfl, hb2⟩; have HB2 := hid (HB1.out.trans (hb2.mono HB1.out.size)); clear hb2)
      | (have _u := HB0; clear _u; go_at_call 12; with_reducible refine (A18.out _).mono ?_; rintro e w1 ⟨rfl, hb1⟩; have HB1 := hid (HB0.out.trans (hb1.mono HB0.out.size)); clear hb1))
    go_ret
    exact ⟨rfl, HB6.out⟩
  by_cases g2 : c < 32
  · rw [show narB 18 c = false from decide_eq_false (by omega)] at A18
    rw [show narB 19 c = false from decide_eq_false (by omega)] at A19
    rw [show narB 26 c = false from decide_eq_false (by omega)] at A26
    rw [show narB 22 c = true from decide_eq_true (by omega)] at A22
    have h1 : 0 ≤ c := by omega
    have h2 : c < 128 := by omega
    have h3 : ¬ 32 ≤ c := by omega
    clear HP HG HH hc g1 g2
    go_enter Try.func6, Try.ntmps6
    go_wp2_with (first
      | (have _u := HB5; clear _u; go_at_call 16; refine (HW.out _).mono ?_; rintro e w6 ⟨rfl, hb6⟩; have HB6 := hid (HB5.out.trans (hb6.mono HB5.out.size)); clear hb6)
      | (have _u := HB4; clear _u; go_at_call 12; with_reducible refine (A12.out _).mono ?_; rintro e w5 ⟨rfl, hb5⟩; have HB5 := hid (HB4.out.trans (hb5.mono HB4.out.size)); clear hb5)
      | (have _u := HB3; clear _u; go_at_call 12; with_reducible refine (A22.out _).mono ?_; rintro e w4 ⟨rfl, hb4⟩; have HB4 := hid (HB3.out.trans (hb4.mono HB3.out.size)); clear hb4)
      | (have _u := HB2; clear _u; go_at_call 12; with_reducible refine (A26.out _).mono ?_; rintro e w3 ⟨rfl, hb3⟩; have HB3 := hid (HB2.out.trans (hb3.mono HB2.out.size)); clear hb3)
      | (have _u := HB1; clear _u; go_at_call 12; with_reducible refine (A19.out _).mono ?_; rintro e w2 ⟨rfl, hb2⟩; have HB2 := hid (HB1.out.trans (hb2.mono HB1.out.size)); clear hb2)
      | (have _u := HB0; clear _u; go_at_call 12; with_reducible refine (A18.out _).mono ?_; rintro e w1 ⟨rfl, hb1⟩; have HB1 := hid (HB0.out.trans (hb1.mono HB0.out.size)); clear hb1))
    go_ret
    exact ⟨rfl, HB6.out⟩
  by_cases g3 : c < 127
  · rw [show narB 26 c = true from decide_eq_true (by omega)] at A26
    rw [show narB 22 c = true from decide_eq_true (by omega)] at A22
    have h1 : 0 ≤ c := by omega
    have h2 : c < 128 := by omega
    have h3 : 32 ≤ c := by omega
    have h4 : c < 127 := by omega
    cases hb : narB 19 c with
    | true =>
      rw [hb] at A19
      generalize narB 18 c = a at A18
      clear HP HG HH hc g1 g2 g3 hb
      cases a with
      | true =>
        go_enter Try.func6, Try.ntmps6
        go_wp2_with (first
          | (have _u := HB5; clear _u; go_at_call 16; refine (HW.out _).mono ?_; rintro e w6 ⟨rfl, hb6⟩; have HB6 := hid (HB5.out.trans (hb6.mono HB5.out.size)); clear hb6)
          | (have _u := HB4; clear _u; go_at_call 12; with_reducible refine (A12.out _).mono ?_; rintro e w5 ⟨rfl, hb5⟩; have HB5 := hid (HB4.out.trans (hb5.mono HB4.out.size)); clear hb5)
          | (have _u := HB3; clear _u; go_at_call 12; with_reducible refine (A22.out _).mono ?_; rintro e w4 ⟨rfl, hb4⟩; have HB4 := hid (HB3.out.trans (hb4.mono HB3.out.size)); clear hb4)
          | (have _u := HB2; clear _u; go_at_call 12; with_reducible refine (A26.out _).mono ?_; rintro e w3 ⟨rfl, hb3⟩; have HB3 := hid (HB2.out.trans (hb3.mono HB2.out.size)); clear hb3)
          | (have _u := HB1; clear _u; go_at_call 12; with_reducible refine (A19.out _).mono ?_; rintro e w2 ⟨rfl, hb2⟩; have HB2 := hid (HB1.out.trans (hb2.mono HB1.out.size)); clear hb2)
          | (have _u := HB0; clear _u; go_at_call 12; with_reducible refine (A18.out _).mono ?_; rintro e w1 ⟨rfl, hb1⟩; have HB1 := hid (HB0.out.trans (hb1.mono HB0.out.size)); clear hb1))
        go_ret
        exact ⟨rfl, HB6.out⟩
      | false =>
        go_enter Try.func6, Try.ntmps6
        go_wp2_with (first
          | (have _u := HB5; clear _u; go_at_call 16; refine (HW.out _).mono ?_; rintro e w6 ⟨rfl, hb6⟩; have HB6 := hid (HB5.out.trans (hb6.mono HB5.out.size)); clear hb6)
          | (have _u := HB4; clear _u; go_at_call 12; with_reducible refine (A12.out _).mono ?_; rintro e w5 ⟨rfl, hb5⟩; have HB5 := hid (HB4.out.trans (hb5.mono HB4.out.size)); clear hb5)
          | (have _u := HB3; clear _u; go_at_call 12; with_reducible refine (A22.out _).mono ?_; rintro e w4 ⟨rfl, hb4⟩; have HB4 := hid (HB3.out.trans (hb4.mono HB3.out.size)); clear hb4)
          | (have _u := HB2; clear _u; go_at_call 12; with_reducible refine (A26.out _).mono ?_; rintro e w3 ⟨rfl, hb3⟩; have HB3 := hid (HB2.out.trans (hb3.mono HB2.out.size)); clear hb3)
          | (have _u := HB1; clear _u; go_at_call 12; with_reducible refine (A19.out _).mono ?_; rintro e w2 ⟨rfl, hb2⟩; have HB2 := hid (HB1.out.trans (hb2.mono HB1.out.size)); clear hb2)
          | (have _u := HB0; clear _u; go_at_call 12; with_reducible refine (A18.out _).mono ?_; rintro e w1 ⟨rfl, hb1⟩; have HB1 := hid (HB0.out.trans (hb1.mono HB0.out.size)); clear hb1))
        go_ret
        exact ⟨rfl, HB6.out⟩
    | false =>
      rw [hb] at A19
      have ha : narB 18 c = false := by
        cases ha : narB 18 c with
        | false => rfl
        | true => rw [narB_sub ha] at hb; cases hb
      rw [ha] at A18
      clear HP HG HH hc g1 g2 g3 hb ha
      go_enter Try.func6, Try.ntmps6
      go_wp2_with (first
        | (have _u := HB5; clear _u; go_at_call 16; refine (HW.out _).mono ?_; rintro e w6 ⟨rfl, hb6⟩; have HB6 := hid (HB5.out.trans (hb6.mono HB5.out.size)); clear hb6)
        | (have _u := HB4; clear _u; go_at_call 12; with_reducible refine (A12.out _).mono ?_; rintro e w5 ⟨rfl, hb5⟩; have HB5 := hid (HB4.out.trans (hb5.mono HB4.out.size)); clear hb5)
        | (have _u := HB3; clear _u; go_at_call 12; with_reducible refine (A22.out _).mono ?_; rintro e w4 ⟨rfl, hb4⟩; have HB4 := hid (HB3.out.trans (hb4.mono HB3.out.size)); clear hb4)
        | (have _u := HB2; clear _u; go_at_call 12; with_reducible refine (A26.out _).mono ?_; rintro e w3 ⟨rfl, hb3⟩; have HB3 := hid (HB2.out.trans (hb3.mono HB2.out.size)); clear hb3)
        | (have _u := HB1; clear _u; go_at_call 12; with_reducible refine (A19.out _).mono ?_; rintro e w2 ⟨rfl, hb2⟩; have HB2 := hid (HB1.out.trans (hb2.mono HB1.out.size)); clear hb2)
        | (have _u := HB0; clear _u; go_at_call 12; with_reducible refine (A18.out _).mono ?_; rintro e w1 ⟨rfl, hb1⟩; have HB1 := hid (HB0.out.trans (hb1.mono HB0.out.size)); clear hb1))
      go_ret
      exact ⟨rfl, HB6.out⟩
  by_cases g4 : c < 128
  · rw [show narB 18 c = false from decide_eq_false (by omega)] at A18
    rw [show narB 19 c = false from decide_eq_false (by omega)] at A19
    rw [show narB 26 c = false from decide_eq_false (by omega)] at A26
    rw [show narB 22 c = true from decide_eq_true (by omega)] at A22
    have h1 : 0 ≤ c := by omega
    have h2 : c < 128 := by omega
    have h3 : 32 ≤ c := by omega
    have h4 : ¬ c < 127 := by omega
    clear HP HG HH hc g1 g2 g3 g4
    go_enter Try.func6, Try.ntmps6
    go_wp2_with (first
      | (have _u := HB5; clear _u; go_at_call 16; refine (HW.out _).mono ?_; rintro e w6 ⟨rfl, hb6⟩; have HB6 := hid (HB5.out.trans (hb6.mono HB5.out.size)); clear hb6)
      | (have _u := HB4; clear _u; go_at_call 12; with_reducible refine (A12.out _).mono ?_; rintro e w5 ⟨rfl, hb5⟩; have HB5 := hid (HB4.out.trans (hb5.mono HB4.out.size)); clear hb5)
      | (have _u := HB3; clear _u; go_at_call 12; with_reducible refine (A22.out _).mono ?_; rintro e w4 ⟨rfl, hb4⟩; have HB4 := hid (HB3.out.trans (hb4.mono HB3.out.size)); clear hb4)
      | (have _u := HB2; clear _u; go_at_call 12; with_reducible refine (A26.out _).mono ?_; rintro e w3 ⟨rfl, hb3⟩; have HB3 := hid (HB2.out.trans (hb3.mono HB2.out.size)); clear hb3)
      | (have _u := HB1; clear _u; go_at_call 12; with_reducible refine (A19.out _).mono ?_; rintro e w2 ⟨rfl, hb2⟩; have HB2 := hid (HB1.out.trans (hb2.mono HB1.out.size)); clear hb2)
      | (have _u := HB0; clear _u; go_at_call 12; with_reducible refine (A18.out _).mono ?_; rintro e w1 ⟨rfl, hb1⟩; have HB1 := hid (HB0.out.trans (hb1.mono HB0.out.size)); clear hb1))
    go_ret
    exact ⟨by first | rfl | simp [h4], HB6.out⟩
  rw [show narB 18 c = false from decide_eq_false (by omega)] at A18
  rw [show narB 19 c = false from decide_eq_false (by omega)] at A19
  rw [show narB 26 c = false from decide_eq_false (by omega)] at A26
  rw [show narB 22 c = false from decide_eq_false (by omega)] at A22
  have h1 : 0 ≤ c := by omega
  have h2 : ¬ c < 128 := by omega
  have h3 : 32 ≤ c := by omega
  have h4 : ¬ c < 127 := by omega
  clear HP HG HH hc g1 g2 g3 g4
  go_enter Try.func6, Try.ntmps6
  go_wp2_with (first
    | (have _u := HB5; clear _u; go_at_call 16; refine (HW.out _).mono ?_; rintro e w6 ⟨rfl, hb6⟩; have HB6 := hid (HB5.out.trans (hb6.mono HB5.out.size)); clear hb6)
    | (have _u := HB4; clear _u; go_at_call 12; with_reducible refine (A12.out _).mono ?_; rintro e w5 ⟨rfl, hb5⟩; have HB5 := hid (HB4.out.trans (hb5.mono HB4.out.size)); clear hb5)
    | (have _u := HB3; clear _u; go_at_call 12; with_reducible refine (A22.out _).mono ?_; rintro e w4 ⟨rfl, hb4⟩; have HB4 := hid (HB3.out.trans (hb4.mono HB3.out.size)); clear hb4)
    | (have _u := HB2; clear _u; go_at_call 12; with_reducible refine (A26.out _).mono ?_; rintro e w3 ⟨rfl, hb3⟩; have HB3 := hid (HB2.out.trans (hb3.mono HB2.out.size)); clear hb3)
    | (have _u := HB1; clear _u; go_at_call 12; with_reducible refine (A19.out _).mono ?_; rintro e w2 ⟨rfl, hb2⟩; have HB2 := hid (HB1.out.trans (hb2.mono HB1.out.size)); clear hb2)
    | (have _u := HB0; clear _u; go_at_call 12; with_reducible refine (A18.out _).mono ?_; rintro e w1 ⟨rfl, hb1⟩; have HB1 := hid (HB0.out.trans (hb1.mono HB0.out.size)); clear hb1))
  go_ret
  exact ⟨by first | rfl | simp [h2, h4], HB6.out⟩
end Go.Proofs.Ytelpbjiohkeobaa
