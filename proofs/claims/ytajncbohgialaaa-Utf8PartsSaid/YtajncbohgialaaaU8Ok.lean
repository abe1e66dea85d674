/- What is asked of package utf8; law13's wakes. No conditions. -/
import Derived.Test.YtajncbohgialaaaU8Math
import Derived.Test.YtajncbohgialaaaKeep
import Derived.Test.YtajncbohgialaaaKeepInts
namespace Go.Proofs.Ytajncbohgialaaa
open Go.RowKit

def UPutOk : Prop := ∀ (v : Value) (s : List Int) (w : World), Sl .i64 w v s → s.all inI = true → s.length ≤ 100000 → Calls Try.prog 9 #[v] w fun e w' => ∃ x, e = .returned (.tuple #[x, .int .i64 (outAt (putU s)), .int .i64 (outE 14 (putU s))]) ∧ Sl .u8 w' x (outL (putU s)) ∧ Below w.heap.size w w'
def UGetOk : Prop := ∀ (v : Value) (b : List Int) (w : World), Sl .u8 w v b → U8 b → b.length ≤ 1000000 → Calls Try.prog 10 #[v] w fun e w' => ∃ x, e = .returned (.tuple #[x, .int .i64 (outAt (getU b)), .int .i64 (outE 11 (getU b))]) ∧ Sl .i64 w' x (outL (getU b)) ∧ Below w.heap.size w w'
def UOneOk : Prop := ∀ (v : Value) (b : List Int) (w : World), Sl .u8 w v b → U8 b → b.length ≤ 1000000 → Calls Try.prog 11 #[v] w fun e w' => e = .returned (.tuple #[.int .i64 (u8one b).1, .int .i64 (u8one b).2]) ∧ Below w.heap.size w w'
theorem w13_put : putU [8364] = .inl [226, 130, 172] := by decide +kernel
theorem w13_get : getU [226, 130, 172] = .inl [8364] := by decide +kernel
theorem w13_bad : getU [65, 192, 128] = .inr 1 := by decide +kernel

set_option maxHeartbeats 4000000 in
theorem lawWakes13 (HP : UPutOk) (HG : UGetOk) (w : World) : Calls Try.prog 17 #[] w fun e w' => e = .returned (.bool true) ∧ Below w.heap.size w w' := by
  have H1 := hid (fun v w h => HP v [8364] w h (by decide) (by decide))
  rw [w13_put] at H1
  have H2 := hid (fun v w h => HG v [226, 130, 172] w h (by unfold U8; decide) (by decide))
  rw [w13_get] at H2
  have H3 := hid (fun v w h => HG v [65, 192, 128] w h (by unfold U8; decide) (by decide))
  rw [w13_bad] at H3
  simp only [outAt, outE, outL] at H1 H2 H3
  have HB0 := hid (Below.refl w.heap.size w)
  clear HP HG
  go_enter Try.func17, Try.ntmps17
  go_wp2_with (first
    | (have _u := HB4; clear _u; go_at_call 16; refine (keepInts _ _ [8364] [8364] _ (S_s_4.out.below (by (repeat (first | exact Below.refl _ _ | exact below_drewN _ | refine Below.drew ?_ | refine Below.alloc ?_ (by simp) _ | refine Below.setCell ?_ (by simp) _ | refine below_drewN' ?_ _)))) (lit_sl (by first | simp | rfl) rfl rfl (by simp))).mono ?_; rw [eqL_self]; rintro e w5 ⟨rfl, n5, hw5⟩; have hb5 : Below w4.heap.size w4 w5 := (by rw [hw5]; exact below_drewN' ((Below.refl _ _).alloc (Nat.le_refl _) _) n5); clear hw5; have HB5 := hid (HB4.out.trans (hb5.mono HB4.out.size)); clear hb5)
    | (have _u := HB3; clear _u; go_at_call 15; refine (keepBytes _ _ [226, 130, 172] [226, 130, 172] _ (S_b_3.out.below (by (repeat (first | exact Below.refl _ _ | exact below_drewN _ | refine Below.drew ?_ | refine Below.alloc ?_ (by simp) _ | refine Below.setCell ?_ (by simp) _ | refine below_drewN' ?_ _)))) (lit_sl (by first | simp | rfl) rfl rfl (by simp))).mono ?_; rw [eqL_self]; rintro e w4 ⟨rfl, n4, hw4⟩; have hb4 : Below w3.heap.size w3 w4 := (by rw [hw4]; exact below_drewN' ((Below.refl _ _).alloc (Nat.le_refl _) _) n4); clear hw4; have S_s_4 := hid (S_s_3.out.below hb4); have HB4 := hid (HB3.out.trans (hb4.mono HB3.out.size)); clear hb4)
    | (have _u := HB2; clear _u; go_at_call 10; refine (H3.out _ _ (lit_sl (by first | simp | rfl) rfl rfl (by simp))).mono ?_; rintro e w3 ⟨v3, rfl, ho3, hb3⟩; replace hb3 := ((Below.refl w2.heap.size w2).alloc (Nat.le_refl _) _).trans (hb3.mono (by first | (simp; done) | (simp; omega))); have S_b_3 := hid (S_b_2.out.below hb3); have S_s_3 := hid (S_s_2.out.below hb3); clear ho3; have HB3 := hid (HB2.out.trans (hb3.mono HB2.out.size)); clear hb3)
    | (have _u := HB1; clear _u; go_at_call 10; with_reducible refine (H2.out _ _ S_b_1.out).mono ?_; rintro e w2 ⟨v2, rfl, ho2, hb2⟩; have S_b_2 := hid (S_b_1.out.below hb2); have S_s_2 := hid ho2; clear ho2; have HB2 := hid (HB1.out.trans (hb2.mono HB1.out.size)); clear hb2)
    | (have _u := HB0; clear _u; go_at_call 9; refine (H1.out _ _ (lit_sl (by first | simp | rfl) rfl rfl (by simp))).mono ?_; rintro e w1 ⟨v1, rfl, ho1, hb1⟩; replace hb1 := ((Below.refl w.heap.size w).alloc (Nat.le_refl _) _).trans (hb1.mono (by first | (simp; done) | (simp; omega))); have S_b_1 := hid ho1; clear ho1; have HB1 := hid (HB0.out.trans (hb1.mono HB0.out.size)); clear hb1))
  go_ret
  exact ⟨rfl, HB5.out⟩
end Go.Proofs.Ytajncbohgialaaa
