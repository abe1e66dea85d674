/- Several texts in one: Utf13b. -/
import Derived.Test.YtildhebaikeknaaGreatPk19
import Derived.Test.YtildhebaikeknaaGreatPk1
/-! Utf13b -/
namespace Go.Proofs.YtildhebaikeknaaGreat
open Go.RowKit

set_option maxHeartbeats 4000000 in
theorem utfAppend (v : Value) (x : List Int) (c : Int) (base : Nat) (w : World) (h : scalarB c = true) (ho : Own .u8 5 base w v x) (hb : base ≤ w.heap.size) (hl : x.length ≤ 1000000) :
    Calls Tryz.prog 44 #[v, .int .i64 c] w fun e w' => ∃ y, e = .returned y ∧ Own .u8 5 base w' y (x ++ u8enc c) ∧ Below base w w' := by
  unfold scalarB at h
  have h := of_decide_eq_true h
  have h0 : 0 ≤ c := h.1
  have hm : c ≤ 1114111 := h.2.1
  clear h
  by_cases h1 : c < 128
  · have HE := hid (show u8enc c = [c] by unfold u8enc; rw [if_pos (by omega)])
    have HL := hid (show (u8enc c).length = 1 by rw [HE.out]; rfl)
    go_enter Tryz.func44, Tryz.ntmps44
    go_wp2_with (first
      | (go_at_call 60; refine (utfLength c _).mono ?_; rw [HL.out]; rintro e w1 ⟨rfl, rfl⟩)
      | (at_builtin; go_loud (refine wpList_app _ rfl _ _ 42 rfl .u8 base 5 1 Tryz.underlying42 Tryz.infoU8 _ x [c] rfl (ho.alloc _) _ rfl (lit_sl (by first | simp | rfl) rfl rfl (by simp)) (by unfold maxLen; simp; omega) (by simp; omega) (by simp; omega) ?_); intro v5 w5 ho5 hg5 hb5 hn5; have HO5 := hid ho5; have HB5 := hid ((Below.alloc (Below.refl _ _) hb _).trans hb5); clear ho5 hg5 hb5 hn5))
    go_ret
    exact ⟨_, rfl, by rw [HE.out]; exact HO5.out, HB5.out⟩
  by_cases h2 : c < 2048
  · have HE := hid (show u8enc c = [192 + c / 64, 128 + c % 64] by unfold u8enc; rw [if_neg (by omega), if_pos (by omega)])
    have HL := hid (show (u8enc c).length = 2 by rw [HE.out]; rfl)
    have e1 := or_192 (c / 64) (by omega) (by omega) (by omega)
    go_enter Tryz.func44, Tryz.ntmps44
    go_wp2_with (first
      | (go_at_call 60; refine (utfLength c _).mono ?_; rw [HL.out]; rintro e w1 ⟨rfl, rfl⟩)
      | (go_at_call 61; with_reducible refine (utfGroup0 c _ h0 hm).mono ?_; rintro e w1 ⟨rfl, rfl⟩)
      | (at_builtin; go_loud (refine wpList_app _ rfl _ _ 42 rfl .u8 base 5 1 Tryz.underlying42 Tryz.infoU8 _ x [192 + c / 64, 128 + c % 64] rfl (ho.alloc _) _ rfl (lit_sl (by first | simp | rfl) rfl rfl (by simp)) (by unfold maxLen; simp; omega) (by simp; omega) (by simp; omega) ?_); intro v5 w5 ho5 hg5 hb5 hn5; have HO5 := hid ho5; have HB5 := hid ((Below.alloc (Below.refl _ _) hb _).trans hb5); clear ho5 hg5 hb5 hn5))
    go_ret
    exact ⟨_, rfl, by rw [HE.out]; exact HO5.out, HB5.out⟩
  by_cases h3 : c < 65536
  · have HE := hid (show u8enc c = [224 + c / 4096, 128 + c / 64 % 64, 128 + c % 64] by unfold u8enc; rw [if_neg (by omega), if_neg (by omega), if_pos (by omega)])
    have HL := hid (show (u8enc c).length = 3 by rw [HE.out]; rfl)
    have e1 := or_224 (c / 4096) (by omega) (by omega) (by omega)
    go_enter Tryz.func44, Tryz.ntmps44
    go_wp2_with (first
      | (go_at_call 60; refine (utfLength c _).mono ?_; rw [HL.out]; rintro e w1 ⟨rfl, rfl⟩)
      | (go_at_call 61; with_reducible refine (utfGroup1 c _ h0 hm).mono ?_; rintro e w1 ⟨rfl, rfl⟩)
      | (go_at_call 61; with_reducible refine (utfGroup0 c _ h0 hm).mono ?_; rintro e w1 ⟨rfl, rfl⟩)
      | (at_builtin; go_loud (refine wpList_app _ rfl _ _ 42 rfl .u8 base 5 1 Tryz.underlying42 Tryz.infoU8 _ x [224 + c / 4096, 128 + c / 64 % 64, 128 + c % 64] rfl (ho.alloc _) _ rfl (lit_sl (by first | simp | rfl) rfl rfl (by simp)) (by unfold maxLen; simp; omega) (by simp; omega) (by simp; omega) ?_); intro v5 w5 ho5 hg5 hb5 hn5; have HO5 := hid ho5; have HB5 := hid ((Below.alloc (Below.refl _ _) hb _).trans hb5); clear ho5 hg5 hb5 hn5))
    go_ret
    exact ⟨_, rfl, by rw [HE.out]; exact HO5.out, HB5.out⟩
  · have HE := hid (show u8enc c = [240 + c / 262144, 128 + c / 4096 % 64, 128 + c / 64 % 64, 128 + c % 64] by unfold u8enc; rw [if_neg (by omega), if_neg (by omega), if_neg (by omega)])
    have HL := hid (show (u8enc c).length = 4 by rw [HE.out]; rfl)
    have e1 := or_240 (c / 262144) (by omega) (by omega) (by omega)
    go_enter Tryz.func44, Tryz.ntmps44
    go_wp2_with (first
      | (go_at_call 60; refine (utfLength c _).mono ?_; rw [HL.out]; rintro e w1 ⟨rfl, rfl⟩)
      | (go_at_call 61; with_reducible refine (utfGroup2 c _ h0 hm).mono ?_; rintro e w1 ⟨rfl, rfl⟩)
      | (go_at_call 61; with_reducible refine (utfGroup1 c _ h0 hm).mono ?_; rintro e w1 ⟨rfl, rfl⟩)
      | (go_at_call 61; with_reducible refine (utfGroup0 c _ h0 hm).mono ?_; rintro e w1 ⟨rfl, rfl⟩)
      | (at_builtin; go_loud (refine wpList_app _ rfl _ _ 42 rfl .u8 base 5 1 Tryz.underlying42 Tryz.infoU8 _ x [240 + c / 262144, 128 + c / 4096 % 64, 128 + c / 64 % 64, 128 + c % 64] rfl (ho.alloc _) _ rfl (lit_sl (by first | simp | rfl) rfl rfl (by simp)) (by unfold maxLen; simp; omega) (by simp; omega) (by simp; omega) ?_); intro v5 w5 ho5 hg5 hb5 hn5; have HO5 := hid ho5; have HB5 := hid ((Below.alloc (Below.refl _ _) hb _).trans hb5); clear ho5 hg5 hb5 hn5))
    go_ret
    exact ⟨_, rfl, by rw [HE.out]; exact HO5.out, HB5.out⟩
end Go.Proofs.YtildhebaikeknaaGreat
