/- Several texts in one: RefEsc. -/
import Derived.Test.YtildhebaikeknaaGreatPk23
import Derived.Test.YtildhebaikeknaaGreatPk24
import Derived.Test.YtildhebaikeknaaGreatPk28
import Derived.Test.YtildhebaikeknaaGreatPk18
/-! RefEsc -/
namespace Go.Proofs.YtildhebaikeknaaGreat
open Go.RowKit

set_option maxHeartbeats 2000000 in
theorem refEsc (g s : Int) (w : World) (h0 : 0 ≤ g) (h3 : g ≤ 3) (hs : s ∈ tabSets ++ [103]) :
    Calls Tryz.prog 75 #[.int .i64 g, .int .i64 s] w fun e w' => ∃ x, e = .returned x ∧ Own .u8 5 w.heap.size w' x (escP g s) ∧ Below w.heap.size w w' := by
  obtain ⟨-, f1, f2⟩ := fin_of hs
  have h40 : IntKind.u8.wrap (40 + g) = 40 + g := by simp only [IntKind.wrap, IntKind.bits, IntKind.signed]; simp; omega
  have hfin : IntKind.u8.wrap (finalS s) = finalS s := by simp only [IntKind.wrap, IntKind.bits, IntKind.signed]; simp; omega
  have HF := hid (fun w => apiFinal s w)
  have HWD := hid (fun w => refWide16 s w)
  have HO0 := hid (lit_own (k := .u8) (w := w) (base := w.heap.size) (e := 5) (xs := [27]) (n := w.heap.size) (len := 1) (cs := #[.int .u8 27]) rfl (Nat.le_refl _) rfl rfl (by simp))
  have HB0 := hid (show Below w.heap.size w (w.alloc (.cells #[.int .u8 27] 5)) from by (repeat (first | exact Below.refl _ _ | exact below_drewN _ | refine Below.drew ?_ | refine Below.alloc ?_ (by simp) _ | refine Below.setCell ?_ (by simp) _ | refine below_drewN' ?_ _)))
  by_cases h87 : s = 87
  · have e87 : (s == 87) = true := by simpa using h87
    have HE := hid (show escP g s = [27] ++ [36] ++ [40 + g, finalS s] from by unfold escP; rw [if_pos h87]; rfl)
    rw [e87] at HWD
    generalize finalS s = fs at HF hfin HE
    clear h87 e87 hs f1 f2
    go_enter Tryz.func75, Tryz.ntmps75
    go_wp2_with (first
      | (have _u := HB2; clear _u; at_builtin; go_loud (refine wpList_app _ rfl _ _ 42 rfl .u8 w.heap.size 5 1 Tryz.underlying42 Tryz.infoU8 _ ([27] ++ [36]) [40 + g, fs] rfl (HO2.out.alloc _) _ rfl (lit_sl (by first | simp | rfl) rfl rfl (by simp)) (by simp [maxLen]) (by simp) (by have := HB2.out.size; simp at this ⊢; try omega) ?_); intro v4 w4 ho4 hg4 hb4 hn4; have HO4 := hid ho4; have HB4 := hid ((HB2.out.alloc HB2.out.size _).trans hb4); clear ho4 hg4 hb4 hn4)
      | (have _u := HB0; clear _u; at_builtin; go_loud (refine wpList_app _ rfl _ _ 42 rfl .u8 w.heap.size 5 1 Tryz.underlying42 Tryz.infoU8 _ [27] [36] rfl (HO0.out.alloc _) _ rfl (lit_sl (by first | simp | rfl) rfl rfl (by simp)) (by simp [maxLen]) (by simp) (by have := HB0.out.size; simp at this ⊢; try omega) ?_); intro v2 w2 ho2 hg2 hb2 hn2; have HO2 := hid ho2; have HB2 := hid ((HB0.out.alloc HB0.out.size _).trans hb2); clear ho2 hg2 hb2 hn2)
      | (go_at_call 91; refine (HF.out _).mono ?_; rintro e w3 ⟨rfl, rfl⟩)
      | (go_at_call 90; refine (HWD.out _).mono ?_; rintro e w1 ⟨rfl, rfl⟩))
    go_ret
    exact ⟨_, rfl, by rw [HE.out]; exact HO4.out, HB4.out⟩
  · have e87 : (s == 87) = false := by simpa using h87
    have HE := hid (show escP g s = [27] ++ [40 + g, finalS s] from by unfold escP; rw [if_neg h87]; rfl)
    rw [e87] at HWD
    generalize finalS s = fs at HF hfin HE
    clear h87 e87 hs f1 f2
    go_enter Tryz.func75, Tryz.ntmps75
    go_wp2_with (first
      | (have _u := HB0; clear _u; at_builtin; go_loud (refine wpList_app _ rfl _ _ 42 rfl .u8 w.heap.size 5 1 Tryz.underlying42 Tryz.infoU8 _ [27] [40 + g, fs] rfl (HO0.out.alloc _) _ rfl (lit_sl (by first | simp | rfl) rfl rfl (by simp)) (by simp [maxLen]) (by simp) (by have := HB0.out.size; simp at this ⊢; try omega) ?_); intro v4 w4 ho4 hg4 hb4 hn4; have HO4 := hid ho4; have HB4 := hid ((HB0.out.alloc HB0.out.size _).trans hb4); clear ho4 hg4 hb4 hn4)
      | (go_at_call 91; refine (HF.out _).mono ?_; rintro e w3 ⟨rfl, rfl⟩)
      | (go_at_call 90; refine (HWD.out _).mono ?_; rintro e w1 ⟨rfl, rfl⟩))
    go_ret
    exact ⟨_, rfl, by rw [HE.out]; exact HO4.out, HB4.out⟩
end Go.Proofs.YtildhebaikeknaaGreat
