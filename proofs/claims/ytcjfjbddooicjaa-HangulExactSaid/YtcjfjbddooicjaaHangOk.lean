/- What is asked of package hangul's Split and Join; law07's wakes. No conditions. -/
import Derived.Test.YtcjfjbddooicjaaHangSpec
import Derived.Test.YtcjfjbddooicjaaKeepInts
namespace Go.Proofs.Ytcjfjbddooicjaa
open Go.RowKit

def I64n (c : Int) : Prop := -9223372036854775808 ≤ c ∧ c ≤ 9223372036854775807
def SplitOk : Prop := ∀ (c : Int) (w : World), I64n c → Calls Try.prog 9 #[.int .i64 c] w fun e w' => ∃ x, e = .returned x ∧ Sl .i64 w' x (splitS c) ∧ Below w.heap.size w w'
def JoinOk : Prop := ∀ (a b : Int) (w : World), I64n a → I64n b → Calls Try.prog 6 #[.int .i64 a, .int .i64 b] w fun e w' => e = .returned (.tuple #[.int .i64 (joinS a b).1, .bool (joinS a b).2]) ∧ Below w.heap.size w w'
theorem i64n {c : Int} (h0 : -1000000 ≤ c) (h1 : c ≤ 1000000000) : I64n c := ⟨by omega, by omega⟩

set_option maxHeartbeats 2000000 in
theorem lawWakes7 (HS : SplitOk) (HJ : JoinOk) (w : World) : Calls Try.prog 11 #[] w fun e w' => e = .returned (.bool true) ∧ Below w.heap.size w w' := by
  have H1 := hid (fun w => HJ 4352 4449 w (i64n (by decide) (by decide)) (i64n (by decide) (by decide)))
  rw [show joinS 4352 4449 = (44032, true) from by decide] at H1
  have H2 := hid (fun w => HS 44033 w (i64n (by decide) (by decide)))
  rw [show splitS 44033 = [4352, 4449, 4520] from by decide] at H2
  clear HS HJ
  go_enter Try.func11, Try.ntmps11
  go_wp2_with (first
    | (go_at_call 6; refine (H1.out _).mono ?_; rintro e w1 ⟨rfl, hb1⟩; have HB1 := hid hb1; clear hb1)
    | (go_at_call 9; refine (H2.out _).mono ?_; rintro e w2 ⟨v2, rfl, ho2, hb2⟩; have HO2 := hid ho2; have HB2 := hid (HB1.out.trans (hb2.mono HB1.out.size)); clear ho2 hb2)
    | (go_at_call 8; refine (keepInts v2 _ [4352, 4449, 4520] [4352, 4449, 4520] _ (HO2.out.below (by (repeat (first | exact Below.refl _ _ | exact below_drewN _ | refine Below.drew ?_ | refine Below.alloc ?_ (by simp) _ | refine Below.setCell ?_ (by simp) _ | refine below_drewN' ?_ _)))) (lit_sl (by first | simp | rfl) rfl rfl (by simp))).mono ?_; rw [eqL_self]; rintro e w3 ⟨rfl, n3, rfl⟩))
  go_ret
  exact ⟨rfl, below_drewN' (HB2.out.alloc HB2.out.size _) _⟩
end Go.Proofs.Ytcjfjbddooicjaa
