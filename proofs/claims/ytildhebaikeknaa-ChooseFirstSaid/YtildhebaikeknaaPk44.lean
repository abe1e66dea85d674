/- Several texts in one: Sh17j. -/
import Derived.Test.YtildhebaikeknaaPk43
import Derived.Test.YtildhebaikeknaaPk25
import Derived.Test.YtildhebaikeknaaPk24
/-! Sh17j -/
namespace Go.Proofs.Ytildhebaikeknaa
open Go.RowKit

theorem fin_range (s : Int) : 0 ≤ finalS s ∧ finalS s ≤ 126 := by
  unfold finalS
  repeat' split
  all_goals omega

set_option maxHeartbeats 4000000 in
theorem shEscape (HW : WideE) : ShEscOk := by
  intro g s w hg hs
  have HFN := hid (fun w => apiFinal s w)
  have HWD := hid (fun w => HW s w)
  obtain ⟨f0, f1⟩ := fin_range s
  clear HW hg hs
  by_cases g0 : g < 0
  · have HE := hid (show escE g s = 1 from by unfold escE; rw [if_neg (by omega)])
    have HL := hid (show escL g s = [] from by unfold escL; rw [HE.out]; rfl)
    clear f0 f1
    go_enter Try.func65, Try.ntmps65
    go_wp2
    go_ret2
    exact ⟨_, by rw [HE.out]; rfl, by rw [HL.out]; exact Own.nil .u8 5 _ _, Below.refl _ _⟩
  by_cases g3 : 3 < g
  · have HE := hid (show escE g s = 1 from by unfold escE; rw [if_neg (by omega)])
    have HL := hid (show escL g s = [] from by unfold escL; rw [HE.out]; rfl)
    clear f0 f1
    go_enter Try.func65, Try.ntmps65
    go_wp2
    go_ret2
    exact ⟨_, by rw [HE.out]; rfl, by rw [HL.out]; exact Own.nil .u8 5 _ _, Below.refl _ _⟩
  have hE : escE g s = if finalS s = 0 then 12 else 0 := by unfold escE; rw [if_pos (by omega)]
  by_cases hf : finalS s = 0
  · have HE := hid (show escE g s = 12 from by rw [hE, if_pos hf])
    have HL := hid (show escL g s = [] from by unfold escL; rw [HE.out]; rfl)
    rw [hf] at HFN
    clear f0 f1 hE hf
    go_enter Try.func65, Try.ntmps65
    go_wp2_with (go_at_call 70; refine (HFN.out _).mono ?_; rintro e w1 ⟨rfl, rfl⟩)
    go_ret2
    exact ⟨_, by rw [HE.out]; rfl, by rw [HL.out]; exact Own.nil .u8 5 _ _, Below.refl _ _⟩
  · have HE := hid (show escE g s = 0 from by rw [hE, if_neg hf])
    have HL := hid (show escL g s = escP g s from by unfold escL; rw [HE.out]; rfl)
    have e0 : (finalS s == 0) = false := by simpa using hf
    have h40 : IntKind.u8.wrap (40 + g) = 40 + g := by simp only [IntKind.wrap, IntKind.bits, IntKind.signed]; simp; omega
    have hfin : IntKind.u8.wrap (finalS s) = finalS s := by simp only [IntKind.wrap, IntKind.bits, IntKind.signed]; simp; omega
    have hP : escP g s = if (s == 87) = true then [27, 36, 40 + g, finalS s] else [27, 40 + g, finalS s] := by
      unfold escP
      by_cases h : s = 87
      · rw [if_pos h, if_pos (by simpa using h)]
      · rw [if_neg h, if_neg (by simpa using h)]
    have HP := hid hP
    clear hP hE hf
    generalize finalS s = fs at HFN HP e0 hfin f0 f1
    generalize (s == 87) = wd at HWD HP
    cases wd with
    | true =>
      have HO := hid (lit_own (k := .u8) (w := w) (base := w.heap.size) (e := 5) (xs := [27, 36, 40 + g, fs]) (n := w.heap.size) (len := 4) (cs := #[.int .u8 27, .int .u8 36, .int .u8 (40 + g), .int .u8 fs]) rfl (Nat.le_refl _) rfl rfl (by simp))
      go_enter Try.func65, Try.ntmps65
      go_wp2_with (first
        | (go_at_call 70; refine (HFN.out _).mono ?_; rintro e w1 ⟨rfl, rfl⟩)
        | (go_at_call 47; refine (HWD.out _).mono ?_; rintro e w2 ⟨rfl, rfl⟩))
      go_ret2
      exact ⟨_, by rw [HE.out]; rfl, by rw [HL.out, HP.out]; exact HO.out, by (repeat (first | exact Below.refl _ _ | exact below_drewN _ | refine Below.drew ?_ | refine Below.alloc ?_ (by simp) _ | refine Below.setCell ?_ (by simp) _ | refine below_drewN' ?_ _))⟩
    | false =>
      have HO := hid (lit_own (k := .u8) (w := w) (base := w.heap.size) (e := 5) (xs := [27, 40 + g, fs]) (n := w.heap.size) (len := 3) (cs := #[.int .u8 27, .int .u8 (40 + g), .int .u8 fs]) rfl (Nat.le_refl _) rfl rfl (by simp))
      go_enter Try.func65, Try.ntmps65
      go_wp2_with (first
        | (go_at_call 70; refine (HFN.out _).mono ?_; rintro e w1 ⟨rfl, rfl⟩)
        | (go_at_call 47; refine (HWD.out _).mono ?_; rintro e w2 ⟨rfl, rfl⟩))
      go_ret2
      exact ⟨_, by rw [HE.out]; rfl, by rw [HL.out, HP.out]; exact HO.out, by (repeat (first | exact Below.refl _ _ | exact below_drewN _ | refine Below.drew ?_ | refine Below.alloc ?_ (by simp) _ | refine Below.setCell ?_ (by simp) _ | refine below_drewN' ?_ _))⟩
end Go.Proofs.Ytildhebaikeknaa
