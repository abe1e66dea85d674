/- Of a header there is one encoding alone: whatever Read reads, Bytes writes again to the same bytes. For every input. -/
import Derived.Test.YtbdmnahkfmildaaTlv7
import Derived.Test.YtbdmnahkfmildaaTlvMath
namespace Go.Proofs.Ytbdmnahkfmildaa
open Go.RowKit

set_option maxHeartbeats 1000000 in
theorem walkOnly (v : Value) (xs : List Int) (w : World) (h : Sl .u8 w v xs) (hu : U8 xs) :
    Calls Try.prog 5 #[v] w fun e w' => e = .returned (.bool true) ∧ Below w.heap.size w w' := by
  have HS := hid h
  have hl := h.len
  obtain ⟨a, cap, rfl, -, -, -⟩ := h
  by_cases hlen : 700 < xs.length
  · go_enter Try.func5, Try.ntmps5
    go_wp2
    go_ret
    exact ⟨rfl, Below.refl _ _⟩
  · have hb := rd_bd xs hu
    have he := rd_err xs
    have ho := rd_only xs hu
    obtain ⟨⟨cls, tag, cons, len, size⟩, E, hrd⟩ : ∃ h E, rd xs = (h, E) := ⟨_, _, rfl⟩
    have HR := hid hrd
    rw [hrd] at hb he ho
    dsimp only at hb he ho
    clear hrd
    by_cases hE : E = 0
    · subst hE
      obtain ⟨hok, s0, s1⟩ := hb rfl
      have ho := ho rfl
      obtain ⟨ys, hys⟩ : ∃ ys, ys = hdB ⟨cls, tag, cons, len, size⟩ := ⟨_, rfl⟩
      rw [← hys] at ho
      have hyl : (ys.length : Int) = size := by rw [ho, List.length_take]; omega
      have HY := hid hys
      have HO := hid ho
      have HK := hid hok
      have hyl2 : ys.length ≤ xs.length := by omega
      clear hb he hys ho hok
      obtain ⟨vc, hc1, hc2, hcs⟩ := cut_all (P := Try.prog) w 22 5 Try.underlying22 Try.infoU8 .u8 _ xs HS.out none (some (.int .i64 (ys.length : Int))) 0 ys.length (.inl ⟨rfl, rfl⟩) (.inr ⟨_, rfl⟩) (by omega) (by omega)
      have HC := hid hcs
      clear hcs
      subst hyl
      go_enter Try.func5, Try.ntmps5
      go_wp2_with (first
        | (go_at_call 9; refine (readHead' _ xs _ (HS.out.below (by (repeat (first | exact Below.refl _ _ | exact below_drewN _ | refine Below.drew ?_ | refine Below.alloc ?_ (by simp) _ | refine Below.setCell ?_ (by simp) _ | refine below_drewN' ?_ _)))) hu HR.out).mono ?_; rintro e w1 ⟨rfl, hb1⟩; have HB1 := hid hb1; clear hb1)
        | (go_at_call 11; refine (bytesOk ⟨cls, tag, cons, len, ys.length⟩ _ HK.out).mono ?_; rintro e w2 ⟨v2, rfl, ho2, hb2⟩; rw [← HY.out] at ho2; have HO2 := hid ho2; have HX2 := hid (Box.below (Box.made w1 24 [.int .i64 cls, .int .i64 tag, .bool cons, .int .i64 len, .int .i64 (ys.length : Int)]) hb2 (by simp)); have hz1 := HB1.out.size; have HB2 := hid (Below.trans (Below.trans HB1.out (show Below w.heap.size w1 _ by (repeat (first | exact Below.refl _ _ | exact below_drewN _ | refine Below.drew ?_ | refine Below.alloc ?_ (by simp; omega) _ | refine Below.alloc ?_ (by omega) _ | refine Below.setCell ?_ (by simp; omega) _ | refine below_drewN' ?_ _)))) (hb2.mono (by first | omega | (simp; omega) | simp))); obtain ⟨k0, k1, k2, k3, k4⟩ := HX2.out.five; obtain ⟨a2, cap2, rfl, -, -, -⟩ := ho2.sl; clear ho2 hb2)
        | (go_at_call 15; refine (keepBytes _ _ ys ys _ HO2.out.sl (by have := HC.out _ (HS.out.below HB2.out); rw [List.drop_zero, Nat.sub_zero, show xs.take ys.length = ys by have := HO.out; rw [Int.toNat_natCast] at this; exact this.symm] at this; exact this)).mono ?_; rw [eqL_self]; rintro e w3 ⟨rfl, n3, rfl⟩)
        | (go_at_call 18; refine (wakesOk _).mono ?_; rintro e w4 ⟨rfl, hb4⟩; have HB4 := hid (Below.trans (below_drewN' HB2.out n3) (hb4.mono (by have := HB2.out.size; simp; omega)))))
      go_ret
      exact ⟨rfl, HB4.out⟩
    · have hz := he hE
      unfold Hd.zero at hz
      rw [hz] at HR
      clear hb he ho hz
      have hE1 : (E != 0) = true := by simp [hE]
      clear hE
      go_enter Try.func5, Try.ntmps5
      go_wp2_with (first
        | (go_at_call 9; refine (readHead' _ xs _ (HS.out.below (by (repeat (first | exact Below.refl _ _ | exact below_drewN _ | refine Below.drew ?_ | refine Below.alloc ?_ (by simp) _ | refine Below.setCell ?_ (by simp) _ | refine below_drewN' ?_ _)))) hu HR.out).mono ?_; rintro e w1 ⟨rfl, hb1⟩; have HB1 := hid hb1; clear hb1)
        | (go_at_call 18; refine (wakesOk _).mono ?_; rintro e w4 ⟨rfl, hb4⟩; have hz1 := HB1.out.size; have HB4 := hid (Below.trans (Below.trans HB1.out (show Below w.heap.size w1 _ by (repeat (first | exact Below.refl _ _ | exact below_drewN _ | refine Below.drew ?_ | refine Below.alloc ?_ (by simp; omega) _ | refine Below.alloc ?_ (by omega) _ | refine Below.setCell ?_ (by simp; omega) _ | refine below_drewN' ?_ _)))) (hb4.mono (by first | omega | (simp; omega) | simp)))))
      go_ret
      exact ⟨rfl, HB4.out⟩

end Go.Proofs.Ytbdmnahkfmildaa
