/- Several texts in one: Tlv6. -/
import Derived.Test.YtildhebaikeknaaGreatPk41
/-! Tlv6 -/
namespace Go.Proofs.YtildhebaikeknaaGreat
open Go.RowKit

/-- the header with this length -/
def Hd.upon (h : Hd) (n : Int) : Hd := ⟨h.cls, h.tag, h.cons, n, h.size⟩

theorem wrapBad (h : Hd) (v : Value) (xs : List Int) (w : World) (hs : Sl .u8 w v xs) (hok : ¬ HdOk (h.upon xs.length)) :
    Calls Tryz.prog 30 #[h.val, v] w fun e w' => e = .returned (.tuple #[.slice none 0 0, .int .i64 1]) ∧ Below w.heap.size w w' := by
  obtain ⟨cls, tag, cons, len, size⟩ := h
  unfold Hd.upon at hok
  dsimp only at hok
  have HB := hid hok
  clear hok
  obtain ⟨a, cap, rfl, -, -, -⟩ := hs
  unfold Hd.val
  dsimp only
  go_enter Tryz.func30, Tryz.ntmps30
  go_wp2_with (go_at_call 42; refine (bytesBad ⟨cls, tag, cons, xs.length, size⟩ _ HB.out).mono ?_; rintro e w1 ⟨rfl, hb1⟩)
  go_ret2
  refine ⟨rfl, Below.trans ?_ (hb1.mono (by simp))⟩
  (repeat (first | exact Below.refl _ _ | exact below_drewN _ | refine Below.drew ?_ | refine Below.alloc ?_ (by simp) _ | refine Below.setCell ?_ (by simp) _ | refine below_drewN' ?_ _))

set_option maxHeartbeats 1000000 in
theorem wrapOk (h : Hd) (v : Value) (xs : List Int) (w : World) (hs : Sl .u8 w v xs) (hok : HdOk (h.upon xs.length)) (hl : xs.length ≤ 1000000000000) :
    Calls Tryz.prog 30 #[h.val, v] w fun e w' => ∃ v', e = .returned (.tuple #[v', .int .i64 0]) ∧ Own .u8 5 w.heap.size w' v' (hdB (h.upon xs.length) ++ xs) ∧ Below w.heap.size w w' := by
  obtain ⟨cls, tag, cons, len, size⟩ := h
  unfold Hd.upon at hok ⊢
  dsimp only at hok ⊢
  have HB := hid hok
  have hlh := hdB_len hok
  clear hok
  obtain ⟨ys, hys⟩ : ∃ ys, ys = hdB ⟨cls, tag, cons, xs.length, size⟩ := ⟨_, rfl⟩
  rw [← hys] at hlh ⊢
  have HY := hid hys
  clear hys
  have HS := hid hs
  obtain ⟨a, cap, rfl, -, -, -⟩ := hs
  obtain ⟨i0, hi, hz0, hz1, hz2⟩ := info_parts Tryz.infoU8
  have HI := hid hi
  have HZ0 := hid hz0
  have HZ1 := hid hz1
  have HZ2 := hid hz2
  clear hi hz0 hz1 hz2
  unfold Hd.val
  dsimp only
  go_enter Tryz.func30, Tryz.ntmps30
  have tok : True := trivial
  go_wp2_with (first
    | (go_at_call 42; refine (bytesOk ⟨cls, tag, cons, xs.length, size⟩ _ HB.out).mono ?_; rintro e w1 ⟨v1, rfl, ho1, hb1⟩; rw [← HY.out] at ho1; have HO1 := hid (ho1.mono (base' := w.heap.size) (by simp)); have HB1 := hid (Below.trans (show Below w.heap.size w _ by (repeat (first | exact Below.refl _ _ | exact below_drewN _ | refine Below.drew ?_ | refine Below.alloc ?_ (by simp) _ | refine Below.setCell ?_ (by simp) _ | refine below_drewN' ?_ _))) (hb1.mono (by simp))); have hz1 := hb1.size; simp at hz1; obtain ⟨a1, cap1, rfl, -, -, -⟩ := ho1.sl; clear ho1 hb1)
    | (at_make; refine wpList_make_own _ rfl _ _ 42 rfl w.heap.size 5 i0 (.int .u8 0) 1 Tryz.underlying42 HI.out HZ0.out HZ1.out _ _ _ (ys.length + xs.length) rfl rfl (by simp) (by rw [HZ2.out]; omega) (by unfold maxLen; omega) (by omega) ?_; intro w2 ho2 hg2; have hb2 := (Below.refl w1.heap.size w1).grown hg2 (by omega) (fun _ h => by cases h); have HO2 := hid (HO1.out.below hb2); have HB2 := hid (HB1.out.trans (hb2.mono (by omega))); have hz2 := hb2.size; clear hb2)
    | (at_builtin; have _t := tok; clear tok; refine wpList_app _ rfl _ _ 42 rfl .u8 w.heap.size 5 1 Tryz.underlying42 Tryz.infoU8 _ [] ys rfl ho2 _ rfl HO2.out.sl (by unfold maxLen; simp; omega) (by simp; omega) (by omega) ?_; intro v3 w3 ho3 hg3 hb3 hn3; have HB3 := hid (HB2.out.trans hb3); have hz3 := hb3.size)
    | (at_builtin; refine wpList_app _ rfl _ _ 42 rfl .u8 w.heap.size 5 1 Tryz.underlying42 Tryz.infoU8 _ ys xs rfl ho3 _ rfl (HS.out.below HB3.out) (by unfold maxLen; simp; omega) (by simp; omega) (by omega) ?_; intro v4 w4 ho4 hg4 hb4 hn4; have HB4 := hid (HB3.out.trans hb4)))
  go_ret2
  exact ⟨_, rfl, ho4, HB4.out⟩

end Go.Proofs.YtildhebaikeknaaGreat
