/- The first two numbers of an identifier and their one number: the walk of the statement. For every input. -/
import Derived.Test.YtihbgpgiladfkaaDoorOidWakes
import Derived.Test.YtihbgpgiladfkaaDoorIx
import Derived.Deep.Cut
namespace Go.Proofs.YtihbgpgiladfkaaDoor
open Go.RowKit

theorem chk_pair_bad {A B : Int} (hA : 0 ≤ A) (h : 2 < A ∨ (A < 2 ∧ 40 ≤ B)) : chk [A, B] = 8 := by
  refine chk_bad (Bool.eq_false_iff.2 fun hh => ?_)
  obtain ⟨⟨h1, h2, h3, h4, h5, h6⟩, _⟩ := (oidOk_iff A B []).1 hh
  omega
theorem pair_ok {A B : Int} (hA : 0 ≤ A) (hB : 0 ≤ B) (hB2 : B < 200) (h : A = 2 ∨ (A < 2 ∧ B < 40)) : oidOk [A, B] = true := by
  refine (oidOk_iff A B []).2 ⟨?_, fun x hx => by cases hx⟩
  unfold maxN
  simp only [List.length_nil]
  omega
theorem pair_cont {A B : Int} (h : oidOk [A, B] = true) {N : Int} (hN : 40 * A + B = N) : contX [A, B] = sept N.toNat := by
  unfold contX
  rw [if_pos h]
  show groups [40 * A + B] = _
  rw [groups_cons, groups_nil, List.append_nil, hN]
theorem sept_1 {N : Int} (h0 : 0 ≤ N) (h : N < 128) : sept N.toNat = [N] := by
  rw [sept_small (by omega)]
  congr 1
  omega
theorem sept_2 {N : Int} (h0 : 128 ≤ N) (h : N < 16384) : sept N.toNat = [128 + N / 128, N % 128] := by
  unfold sept
  rw [septHi_pos (by omega), show N.toNat / 128 / 128 = 0 by omega, septHi_zero, List.nil_append]
  simp only [List.cons_append, List.nil_append]
  congr 1
  · omega
  · congr 1
    omega

set_option maxHeartbeats 2000000 in
theorem walkFirsts (a b : Int) (w : World) (ht : Tab w) (hm : MaxL w) :
    Calls Tryd.prog 5 #[.int .i64 a, .int .i64 b] w fun e w' => e = .returned (.bool true) ∧ Below w.heap.size w w' := by
  obtain ⟨a0, a1⟩ := ixr a 5 (by decide) (by decide)
  obtain ⟨b0, b1⟩ := ixr b 200 (by decide) (by decide)
  go_enter Tryd.func5, Tryd.ntmps5
  go_upto_region 2 with (fail)
  generalize wrap64 ((IntKind.u64.wrap a).tmod 5) = A at a0 a1 ⊢
  generalize wrap64 ((IntKind.u64.wrap b).tmod 200) = B at b0 b1 ⊢
  have hIl : I64 [A, B] := fun x hx => by
    simp at hx
    rcases hx with rfl | rfl <;> omega
  have HI := hid hIl
  clear hIl
  by_cases hbad : 2 < A ∨ (A < 2 ∧ 40 ≤ B)
  · have hc := hid (chk_pair_bad a0 hbad)
    rcases hbad with hA | ⟨hA, hB⟩
    · go_wp2_with (first
        | (go_at_call 16; refine (oidCheck _ [A, B] _ (lit_sl rfl rfl rfl (by simp)) HI.out).mono ?_; rw [hc.out]; rintro e w2 ⟨rfl, n2, rfl⟩)
        | (go_at_call 17; refine (lawWakes _ (ht.below (by (repeat (first | exact Below.refl _ _ | exact below_drewN _ | refine Below.drew ?_ | refine Below.alloc ?_ (by simp) _ | refine Below.setCell ?_ (by simp) _ | refine below_drewN' ?_ _)))) (hm.below (by (repeat (first | exact Below.refl _ _ | exact below_drewN _ | refine Below.drew ?_ | refine Below.alloc ?_ (by simp) _ | refine Below.setCell ?_ (by simp) _ | refine below_drewN' ?_ _))))).mono ?_; rintro e w3 ⟨rfl, hb3⟩; have HB3 := hid (Below.trans (show Below w.heap.size w _ by (repeat (first | exact Below.refl _ _ | exact below_drewN _ | refine Below.drew ?_ | refine Below.alloc ?_ (by simp) _ | refine Below.setCell ?_ (by simp) _ | refine below_drewN' ?_ _))) (hb3.mono (by first | omega | (simp; omega) | simp))); clear hb3))
      go_ret
      exact ⟨rfl, HB3.out⟩
    · have hA2 : (A == 2) = false := by simp; omega
      have hB2 : decide (B < 40) = false := by simp; omega
      go_wp2_with (first
        | (go_at_call 16; refine (oidCheck _ [A, B] _ (lit_sl rfl rfl rfl (by simp)) HI.out).mono ?_; rw [hc.out]; rintro e w2 ⟨rfl, n2, rfl⟩)
        | (go_at_call 17; refine (lawWakes _ (ht.below (by (repeat (first | exact Below.refl _ _ | exact below_drewN _ | refine Below.drew ?_ | refine Below.alloc ?_ (by simp) _ | refine Below.setCell ?_ (by simp) _ | refine below_drewN' ?_ _)))) (hm.below (by (repeat (first | exact Below.refl _ _ | exact below_drewN _ | refine Below.drew ?_ | refine Below.alloc ?_ (by simp) _ | refine Below.setCell ?_ (by simp) _ | refine below_drewN' ?_ _))))).mono ?_; rintro e w3 ⟨rfl, hb3⟩; have HB3 := hid (Below.trans (show Below w.heap.size w _ by (repeat (first | exact Below.refl _ _ | exact below_drewN _ | refine Below.drew ?_ | refine Below.alloc ?_ (by simp) _ | refine Below.setCell ?_ (by simp) _ | refine below_drewN' ?_ _))) (hb3.mono (by first | omega | (simp; omega) | simp))); clear hb3))
      go_ret
      exact ⟨rfl, HB3.out⟩
  · have hok := pair_ok a0 b0 b1 (A := A) (B := B) (by omega)
    have hc := hid (chk_ok hok)
    obtain ⟨N, hN⟩ : ∃ N, 40 * A + B = N := ⟨_, rfl⟩
    have N0 : 0 ≤ N := by omega
    have N1 : N < 280 := by omega
    have hX := pair_cont hok hN
    by_cases hs : N < 128
    · rw [sept_1 N0 hs] at hX
      have HX := hid hX
      clear hX hok
      have hNe : (N == N) = true := by simp
      have arm : A = 2 ∨ ((A == 2) = false ∧ A < 2 ∧ B < 40) := by
        by_cases h : A = 2
        · exact .inl h
        · exact .inr ⟨by simpa using h, by omega, by omega⟩
      clear hbad
      rcases arm with rfl | ⟨hA2, hA, hB⟩
      · go_wp2_with (first
        | (go_at_call 16; refine (oidCheck _ [2, B] _ (lit_sl rfl rfl rfl (by simp)) HI.out).mono ?_; rw [hc.out]; rintro e w2 ⟨rfl, n2, rfl⟩)
        | (go_at_call 8; refine (oidContent _ [2, B] _ (lit_sl (by first | simp | rfl) rfl rfl (by simp)) HI.out).mono ?_; rw [HX.out, hc.out]; rintro e w5 ⟨v5, rfl, ho5, hb5⟩; obtain ⟨bb, oo, cc, rfl, d0⟩ := ho5.sl.one; have HB5 := hid (Below.trans (show Below w.heap.size w _ by (repeat (first | exact Below.refl _ _ | exact below_drewN _ | refine Below.drew ?_ | refine Below.alloc ?_ (by simp) _ | refine Below.setCell ?_ (by simp) _ | refine below_drewN' ?_ _))) (hb5.mono (by first | omega | (simp; omega) | simp))); clear ho5 hb5)
        | (go_at_call 17; refine (lawWakes _ (ht.below HB5.out) (hm.below HB5.out)).mono ?_; rintro e w3 ⟨rfl, hb3⟩; have HB3 := hid (HB5.out.trans (hb3.mono HB5.out.size)); clear hb3))
        go_ret
        exact ⟨rfl, HB3.out⟩
      · go_wp2_with (first
        | (go_at_call 16; refine (oidCheck _ [A, B] _ (lit_sl rfl rfl rfl (by simp)) HI.out).mono ?_; rw [hc.out]; rintro e w2 ⟨rfl, n2, rfl⟩)
        | (go_at_call 8; refine (oidContent _ [A, B] _ (lit_sl (by first | simp | rfl) rfl rfl (by simp)) HI.out).mono ?_; rw [HX.out, hc.out]; rintro e w5 ⟨v5, rfl, ho5, hb5⟩; obtain ⟨bb, oo, cc, rfl, d0⟩ := ho5.sl.one; have HB5 := hid (Below.trans (show Below w.heap.size w _ by (repeat (first | exact Below.refl _ _ | exact below_drewN _ | refine Below.drew ?_ | refine Below.alloc ?_ (by simp) _ | refine Below.setCell ?_ (by simp) _ | refine below_drewN' ?_ _))) (hb5.mono (by first | omega | (simp; omega) | simp))); clear ho5 hb5)
        | (go_at_call 17; refine (lawWakes _ (ht.below HB5.out) (hm.below HB5.out)).mono ?_; rintro e w3 ⟨rfl, hb3⟩; have HB3 := hid (HB5.out.trans (hb3.mono HB5.out.size)); clear hb3))
        go_ret
        exact ⟨rfl, HB3.out⟩
    · have hA : A = 2 := by omega
      subst hA
      rw [sept_2 (by omega) (by omega)] at hX
      have HX := hid hX
      clear hX hok hbad
      go_wp2_with (first
        | (go_at_call 16; refine (oidCheck _ [2, B] _ (lit_sl rfl rfl rfl (by simp)) HI.out).mono ?_; rw [hc.out]; rintro e w2 ⟨rfl, n2, rfl⟩)
        | (go_at_call 8; refine (oidContent _ [2, B] _ (lit_sl (by first | simp | rfl) rfl rfl (by simp)) HI.out).mono ?_; rw [HX.out, hc.out]; rintro e w5 ⟨v5, rfl, ho5, hb5⟩; obtain ⟨bb, oo, cc, rfl, d0, d1⟩ := ho5.sl.two; have HB5 := hid (Below.trans (show Below w.heap.size w _ by (repeat (first | exact Below.refl _ _ | exact below_drewN _ | refine Below.drew ?_ | refine Below.alloc ?_ (by simp) _ | refine Below.setCell ?_ (by simp) _ | refine below_drewN' ?_ _))) (hb5.mono (by first | omega | (simp; omega) | simp))); clear ho5 hb5)
        | (go_at_call 17; refine (lawWakes _ (ht.below HB5.out) (hm.below HB5.out)).mono ?_; rintro e w3 ⟨rfl, hb3⟩; have HB3 := hid (HB5.out.trans (hb3.mono HB5.out.size)); clear hb3))
      go_ret
      exact ⟨rfl, HB3.out⟩
end Go.Proofs.YtihbgpgiladfkaaDoor
