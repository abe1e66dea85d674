/- Walk of law07's HangulExact, out of what is asked of package hangul. -/
import Derived.Test.YtcjfjbddooicjaaHangOk
import Derived.Test.YtcjfjbddooicjaaRef7
namespace Go.Proofs.Ytcjfjbddooicjaa
open Go.RowKit

set_option maxHeartbeats 4000000 in
theorem walkExact7 (HS : SplitOk) (HJ : JoinOk) (a b : Int) (w : World) (ha : I64n a) (hb : I64n b) :
    Calls Try.prog 3 #[.int .i64 a, .int .i64 b] w fun e w' => e = .returned (.bool true) ∧ Below w.heap.size w w' := by
  have HW := hid (fun w => lawWakes7 HS HJ w)
  have H1 := hid (fun w => HJ a b w ha hb)
  have H2 := hid (fun w => refJoin7 a b w ha hb)
  have H3 := hid (fun w => HS a w ha)
  have H4 := hid (fun w => refSplit7 a w ha.1 ha.2)
  obtain ⟨R, hR⟩ : ∃ R, R = joinS a b := ⟨_, rfl⟩
  rw [← hR] at H1 H2
  obtain ⟨m, ok⟩ := R
  simp only at H1 H2
  obtain ⟨l, hl⟩ : ∃ l, l = splitS a := ⟨_, rfl⟩
  rw [← hl] at H3 H4
  clear hR hl HS HJ ha hb
  go_enter Try.func3, Try.ntmps3
  go_wp2_with (first
    | (go_at_call 6; refine (H1.out _).mono ?_; rintro e w1 ⟨rfl, hb1⟩; have HB1 := hid hb1; clear hb1)
    | (go_at_call 7; refine (H2.out _).mono ?_; rintro e w2 ⟨rfl, rfl⟩)
    | (go_at_call 9; refine (H3.out _).mono ?_; rintro e w3 ⟨v3, rfl, ho3, hb3⟩; have HO3 := hid ho3; have HB3 := hid (HB1.out.trans (hb3.mono HB1.out.size)); clear ho3 hb3)
    | (go_at_call 10; refine (H4.out _).mono ?_; rintro e w4 ⟨v4, rfl, ho4, hb4⟩; have HO4 := hid ho4; have HO34 := hid (HO3.out.below hb4); have HB4 := hid (HB3.out.trans (hb4.mono HB3.out.size)); clear ho4 hb4)
    | (go_at_call 8; refine (keepInts v3 v4 l l _ HO34.out HO4.out).mono ?_; rw [eqL_self]; rintro e w5 ⟨rfl, n5, rfl⟩; have HB5 := hid (below_drewN' HB4.out n5))
    | (go_at_call 11; refine (HW.out _).mono ?_; rintro e w6 ⟨rfl, hb6⟩; have HB6 := hid (HB5.out.trans (hb6.mono HB5.out.size)); clear hb6))
  go_ret
  exact ⟨rfl, HB6.out⟩
end Go.Proofs.Ytcjfjbddooicjaa
