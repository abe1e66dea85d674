/- What is asked of package narrow; law15's wakes. No conditions. -/
import Derived.Test.YtelpbjiohkeobaaNarSpec
import Derived.Test.YtelpbjiohkeobaaNum
import Derived.Test.YtelpbjiohkeobaaIx
import Derived.Test.YtelpbjiohkeobaaKeep
import Derived.Test.YtelpbjiohkeobaaKeepInts
import Derived.Test.YtelpbjiohkeobaaMarked
import Derived.Laws.BytesArg
namespace Go.Proofs.Ytelpbjiohkeobaa
open Go.RowKit

def NHasOk : Prop := ∀ (k c : Int) (w : World), inI c = true → Calls Try.prog 12 #[.int .i64 k, .int .i64 c] w fun e w' => e = .returned (.bool (narB k c)) ∧ Below w.heap.size w w'
def NPutOk : Prop := ∀ (k : Int) (v : Value) (s : List Int) (w : World), Sl .i64 w v s → s.all inI = true → s.length ≤ 100000 → Calls Try.prog 8 #[.int .i64 k, v] w fun e w' => ∃ x, e = .returned (.tuple #[x, .int .i64 (nput k s).2.1, .int .i64 (nput k s).2.2]) ∧ Own .u8 5 w.heap.size w' x (nput k s).1 ∧ Below w.heap.size w w'
def NGetOk : Prop := ∀ (k : Int) (v : Value) (b : List Int) (w : World), Sl .u8 w v b → U8 b → b.length ≤ 1000000 → Calls Try.prog 9 #[.int .i64 k, v] w fun e w' => ∃ x, e = .returned (.tuple #[x, .int .i64 (nget k b).2.1, .int .i64 (nget k b).2.2]) ∧ Sl .i64 w' x (nget k b).1 ∧ Below w.heap.size w w'
theorem nput_ok {k : Int} {s x : List Int} {a : Int} (h : nput k s = (x, a, 0)) : x = s ∧ nget k s = (s, 0, 0) ∧ U8 s := by
  unfold nput at h
  cases hk : narK k with
  | false => rw [hk] at h; simp at h
  | true =>
    rw [hk] at h
    cases hs : nchk k s with
    | inr j => rw [hs] at h; simp [res3, outE] at h
    | inl y =>
      rw [hs] at h
      simp only [res3, outL, if_true, Prod.mk.injEq] at h
      refine ⟨by rw [← h.1]; exact (nchk_same hs).1, ?_, nchk_u8 hs⟩
      unfold nget
      rw [hk, nchk_self hs]
      rfl
theorem nget_ok {k : Int} {s x : List Int} {a : Int} (h : nget k s = (x, a, 0)) : x = s ∧ nput k s = (s, 0, 0) := by
  unfold nget at h
  cases hk : narK k with
  | false => rw [hk] at h; simp at h
  | true =>
    rw [hk] at h
    cases hs : nchk k s with
    | inr j => rw [hs] at h; simp [res3, outE] at h
    | inl y =>
      rw [hs] at h
      simp only [res3, outL, if_true, Prod.mk.injEq] at h
      refine ⟨by rw [← h.1]; exact (nchk_same hs).1, ?_⟩
      unfold nput
      rw [hk, nchk_self hs]
      rfl
theorem two_cells {w : World} {b o : Nat} {x y : Int} (h0 : w.cell? ⟨b, o, none⟩ = some (.int .u8 x)) (h1 : w.cell? ⟨b, o + 1, none⟩ = some (.int .u8 y)) : ∀ i, i < 2 → w.cell? ⟨b, o + i, none⟩ = some (.int .u8 ([x, y].getD i 0)) := fun i hi => by
  have : i = 0 ∨ i = 1 := by omega
  rcases this with rfl | rfl
  · exact h0
  · exact h1
theorem w15_get : nget 19 [97, 42] = ([], 1, 13) := by decide +kernel
theorem w15_put : nput 22 [97, 42] = ([97, 42], 0, 0) := by decide +kernel
theorem w15_str : strOfNums [97, 42] = ⟨#[97, 42]⟩ := by rfl

set_option maxHeartbeats 4000000 in
theorem lawWakes15 (HP : NPutOk) (HG : NGetOk) (HH : NHasOk) (w : World) : Calls Try.prog 16 #[] w fun e w' => e = .returned (.bool true) ∧ Below w.heap.size w w' := by
  have H1 := hid (fun v w h => HG 19 v [97, 42] w h (by unfold U8; decide) (by decide))
  rw [w15_get] at H1
  have H2 := hid (fun v w h => HP 22 v [97, 42] w h (by decide) (by decide))
  rw [w15_put] at H2
  have H3 := hid (fun w => HH 18 53 w (by decide))
  rw [show narB 18 53 = true by decide +kernel] at H3
  have HSTR := hid w15_str
  have kc := conv_const
  have HB0 := hid (Below.refl w.heap.size w)
  clear HP HG HH
  go_enter Try.func16, Try.ntmps16
  go_wp2_with (first
    | (have _u := HB2; clear _u; go_at_call 12; with_reducible refine (H3.out _).mono ?_; rintro e w3 ⟨rfl, hb3⟩; have HB3 := hid (HB2.out.trans (hb3.mono HB2.out.size)); clear hb3)
    | (have _u := HB1; clear _u; go_at_call 8; refine (H2.out _ _ (lit_sl (by first | simp | rfl) rfl rfl (by simp))).mono ?_; rintro e w2 ⟨v2, rfl, ho2, hb2⟩; replace hb2 := ((Below.refl w1.heap.size w1).alloc (Nat.le_refl _) _).trans (hb2.mono (by first | (simp; done) | (simp; omega))); obtain ⟨b2, o2, c2, hv2, d2, e2⟩ := Sl.two ho2.sl; subst hv2; have hcv := run_convert_bytes_arg w2 23 5 Try.underlying23 Try.underlying5 b2 o2 2 c2 [97, 42] rfl (two_cells d2 e2) 9 Try.underlying9; rw [HSTR.out] at hcv; clear ho2; have HB2 := hid (HB1.out.trans (hb2.mono HB1.out.size)); clear hb2)
    | (have _u := HB0; clear _u; go_at_call 9; refine (H1.out _ _ (lit_mk (by first | simp | rfl) rfl rfl (by simp))).mono ?_; rintro e w1 ⟨v1, rfl, ho1, hb1⟩; replace hb1 := ((Below.refl w.heap.size w).alloc (Nat.le_refl _) _).trans (hb1.mono (by first | (simp; done) | (simp; omega))); clear ho1; have HB1 := hid (HB0.out.trans (hb1.mono HB0.out.size)); clear hb1))
  go_ret
  exact ⟨rfl, HB3.out⟩
end Go.Proofs.Ytelpbjiohkeobaa
