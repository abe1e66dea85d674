/- A well-formed value cut short anywhere is none; with a byte behind it is none, told at its end: the walk of the statement. For every input. -/
import Derived.Test.YtgjjncoelbhpeaaLawForms
namespace Go.Proofs.Ytgjjncoelbhpeaa
open Go.RowKit

theorem cut_none {xs : List Int} {p d : Nat} (hu : U8 xs) (h : wellS xs = ⟨0, p, d⟩) (K : Nat) (hK : K < xs.length) : (wellS (xs.take K)).e ≠ 0 := by
  intro h0
  obtain ⟨E, P, D⟩ : WR := wellS (xs.take K)
  cases hw : wellS (xs.take K) with
  | mk e2 p2 d2 =>
    rw [hw] at h0
    dsimp only at h0
    subst h0
    obtain ⟨a1, a2, _⟩ := wellS_ok (hu.take K) hw
    obtain ⟨b1, b2, _⟩ := wellS_ok hu h
    have := valW_app (hu.take K) a1 (xs.drop K)
    rw [List.take_append_drop] at this
    rw [this, a2, List.length_take] at b2
    omega
theorem more_trails {xs : List Int} {p d : Nat} (hu : U8 xs) (h : wellS xs = ⟨0, p, d⟩) (m : Int) : wellS (xs ++ [m]) = ⟨5, xs.length, 0⟩ := by
  obtain ⟨b1, b2, _⟩ := wellS_ok hu h
  unfold wellS
  rw [valW_app hu b1, if_neg (by omega), if_pos (by rw [b2]; simp), b2]

set_option maxHeartbeats 2000000 in
theorem walkCut (v : Value) (xs : List Int) (cut m : Int) (w : World) (h : Sl .u8 w v xs) (hu : U8 xs) (hm : 0 ≤ m ∧ m ≤ 255) :
    Calls Try.prog 6 #[v, .int .i64 cut, .int .u8 m] w fun e w' => e = .returned (.bool true) ∧ Below w.heap.size w w' := by
  have HS := hid h
  have hl := h.len
  obtain ⟨a, cap, rfl, -, -, -⟩ := h
  by_cases hlen : 700 < xs.length
  · go_enter Try.func6, Try.ntmps6
    go_wp2
    go_ret
    exact ⟨rfl, Below.refl _ _⟩
  · obtain ⟨E, P, D, hW⟩ : ∃ E P D, wellS xs = ⟨E, P, D⟩ := ⟨_, _, _, rfl⟩
    have HW := hid hW
    by_cases hE : E = 0
    · subst hE
      have hx2 : 0 < xs.length := by
        obtain ⟨b1, b2, _⟩ := wellS_ok hu hW
        have := (valW_bd 32 xs hu).2 b1
        omega
      have hx0 : ((xs.length : Int) == 0) = false := beq_eq_false_iff_ne.2 (by omega)
      obtain ⟨k0, k1⟩ := ix_bd cut (xs.length : Int) (by omega) (by omega)
      obtain ⟨K, hK⟩ := Int.eq_ofNat_of_zero_le k0
      have HK := hid hK
      have hKl : K < xs.length := by omega
      have hcn := cut_none hu hW K hKl
      obtain ⟨E2, P2, D2, hW2⟩ : ∃ E P D, wellS (xs.take K) = ⟨E, P, D⟩ := ⟨_, _, _, rfl⟩
      rw [hW2] at hcn
      dsimp only at hcn
      have hE2 : (E2 != 0) = true := by simp [hcn]
      have HW2 := hid hW2
      have HW3 := hid (more_trails hu hW m)
      clear hW hW2 hcn k0 k1 hK
      have tok : True := trivial
      have tok2 : True := trivial
      go_enter Try.func6, Try.ntmps6
      go_wp2_with (first
        | (go_at_call 11; have _t := tok; clear tok; refine (wellCheck _ xs _ HS.out hu HW.out).mono ?_; rintro e w2 ⟨rfl, hb2⟩; have HB2 := hid hb2; have HS2 := hid (HS.out.below hb2); clear hb2)
        | (with_reducible refine at_to ?_; refine wpList_to _ rfl _ _ 22 rfl .u8 5 1 Try.underlying22 Try.infoU8 (.slice a xs.length cap) xs rfl HS2.out .i64 (wrap64 ((IntKind.u64.wrap cut).tmod (xs.length : Int))) rfl (by rw [HK.out]; exact Int.natCast_nonneg _) (by rw [HK.out]; omega) ?_; rw [HK.out, Int.toNat_natCast]; intro v3 hv3; have HV3 := hid hv3; clear hv3)
        | (go_at_call 11; have _t := tok2; clear tok2; refine (wellCheck _ (xs.take K) _ HV3.out (hu.take K) HW2.out).mono ?_; rintro e w4 ⟨rfl, hb4⟩; have HB4 := hid (HB2.out.trans (hb4.mono HB2.out.size)); have HS4 := hid (HS.out.below HB4.out); clear hb4)
        | (go_at_call 10; refine (keepTwin _ xs _ HS4.out (by omega)).mono ?_; rintro e w5 ⟨v5, rfl, ho5, hb5⟩; have HO5 := hid ho5; have HB5 := hid (HB4.out.trans (hb5.mono HB4.out.size)); have hz5 := HB4.out.size; have hz6 := hb5.size; clear ho5 hb5)
        | (at_builtin; refine wpList_app _ rfl _ _ 22 rfl .u8 w4.heap.size 5 1 Try.underlying22 Try.infoU8 _ xs [m] rfl (HO5.out.alloc _) _ rfl (one_sl rfl) (by unfold maxLen; simp; omega) (by simp; omega) (by simp; omega) ?_; intro v6 w6 ho6 hg6 hb6 hn6; have HO6 := hid ho6; have HB6 := hid ((HB5.out.alloc HB5.out.size (.cells #[.int .u8 m] 5)).trans (hb6.mono hz5)); clear ho6 hb6 hg6 hn6)
        | (go_at_call 11; refine (wellCheck _ (xs ++ [m]) _ HO6.out.sl (hu.append (U8.cons hm U8.nil)) HW3.out).mono ?_; rintro e w7 ⟨rfl, hb7⟩; have HB7 := hid (HB6.out.trans (hb7.mono HB6.out.size)); clear hb7)
        | (go_at_call 16; refine (wakesOk _).mono ?_; rintro e w8 ⟨rfl, hb8⟩; have HB8 := hid (HB7.out.trans (hb8.mono HB7.out.size)); clear hb8))
      all_goals go_goals
      go_ret
      exact ⟨rfl, HB8.out⟩
    · have hE1 : (E != 0) = true := by simp [hE]
      clear hE hW
      go_enter Try.func6, Try.ntmps6
      go_wp2_with (first
        | (go_at_call 11; refine (wellCheck _ xs _ HS.out hu HW.out).mono ?_; rintro e w2 ⟨rfl, hb2⟩; have HB2 := hid hb2; clear hb2)
        | (go_at_call 16; refine (wakesOk _).mono ?_; rintro e w8 ⟨rfl, hb8⟩; have HB8 := hid (HB2.out.trans (hb8.mono HB2.out.size)); clear hb8))
      go_ret
      exact ⟨rfl, HB8.out⟩

end Go.Proofs.Ytgjjncoelbhpeaa
