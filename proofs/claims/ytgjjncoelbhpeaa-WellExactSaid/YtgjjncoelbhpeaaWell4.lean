/- Contracts of package well's survey, Check and Depth: where a value is at fault and why, or its depth. -/
import Derived.Test.YtgjjncoelbhpeaaWell3
namespace Go.Proofs.Ytgjjncoelbhpeaa
open Go.RowKit

theorem wellVal' (v : Value) (xs : List Int) (w w2 : World) (hs0 : Sl .u8 w v xs) (hu : U8 xs) (B : Nat) (hb : Below w.heap.size w w2) (hB : w.heap.size ≤ B) (hbx : Box 58 [v, .int .i64 0] B w2) :
    Calls Try.prog 31 #[.pointer (some ⟨B, 0, none⟩), .int .i64 0, .int .i64 (xs.length : Int), .int .i64 1] w2 fun e w' =>
      e = .returned (.tuple #[.int .i64 ((valW 32 xs).pos : Int), .int .i64 (valW 32 xs).e]) ∧ Below w.heap.size w w' ∧
      ∃ D', Box 58 [v, .int .i64 D'] B w' ∧ ((valW 32 xs).e = 0 → D' = ((valW 32 xs).deep : Int)) := by
  have h := wellVal w v xs hs0 hu 32 0 xs.length 0 B w2 (by omega) (by omega) (by omega) hb hB hbx
  rw [List.drop_zero, Nat.sub_zero, List.take_length] at h
  refine h.mono ?_
  rintro e w' ⟨rfl, hg, D', hb', hD⟩
  refine ⟨ret_two (by omega) rfl, below_grow hb hg hb.size hB, D', hb', fun h0 => ?_⟩
  have := hD h0
  have := (valW_bd 32 xs hu).2 h0
  omega

def trip (r : WR) : Value := .tuple #[.int .i64 (r.deep : Int), .int .i64 (r.pos : Int), .int .i64 r.e]

set_option maxHeartbeats 1000000 in
theorem wellSurvey (v : Value) (xs : List Int) (w : World) (h : Sl .u8 w v xs) (hu : U8 xs) :
    Calls Try.prog 23 #[v] w fun e w' => e = .returned (trip (wellS xs)) ∧ Below w.heap.size w w' := by
  have hmx := h.len
  have HV := fun (w2 : World) hb hbx => wellVal' v xs w w2 h hu w.heap.size hb (Nat.le_refl _) hbx
  have hbd := valW_bd 32 xs hu
  have hS : wellS xs = wellS xs := rfl
  conv at hS => rhs; unfold wellS
  obtain ⟨⟨E, P, Q⟩, hR⟩ : ∃ R, R = valW 32 xs := ⟨_, rfl⟩
  rw [← hR] at HV hbd hS
  dsimp only at HV hbd hS
  clear hR
  have HVV := hid HV
  clear HV
  have hP := hbd.1
  obtain ⟨a, cap, rfl, -, -, -⟩ := h
  by_cases hE : E = 0
  · subst hE
    rw [if_neg (by simp)] at hS
    clear hbd
    by_cases hL : P < xs.length
    · rw [if_pos hL] at hS
      rw [hS]
      clear hS
      unfold trip
      dsimp only
      go_enter Try.func23, Try.ntmps23
      go_wp2_with (go_at_call 31; refine (HVV.out _ (by (repeat (first | exact Below.refl _ _ | exact below_drewN _ | refine Below.drew ?_ | refine Below.alloc ?_ (by simp) _ | refine Below.setCell ?_ (by simp) _ | refine below_drewN' ?_ _))) (Box.made w 58 [_, .int .i64 0])).mono ?_; rintro e w2 ⟨rfl, hb2, D2, hbx2, hD2⟩; have HB2 := hid hb2; have HX2 := hid hbx2; have HD2 := hid hD2; obtain ⟨b0, b1, c0, c1⟩ := HX2.out.two; clear hD2 hb2 hbx2)
      go_ret3
      exact ⟨rfl, HB2.out⟩
    · rw [if_neg hL] at hS
      rw [hS]
      clear hS
      unfold trip
      dsimp only
      go_enter Try.func23, Try.ntmps23
      go_wp2_with (go_at_call 31; refine (HVV.out _ (by (repeat (first | exact Below.refl _ _ | exact below_drewN _ | refine Below.drew ?_ | refine Below.alloc ?_ (by simp) _ | refine Below.setCell ?_ (by simp) _ | refine below_drewN' ?_ _))) (Box.made w 58 [_, .int .i64 0])).mono ?_; rintro e w2 ⟨rfl, hb2, D2, hbx2, hD2⟩; have HB2 := hid hb2; have HX2 := hid hbx2; have HD2 := hid hD2; obtain ⟨b0, b1, c0, c1⟩ := HX2.out.two; clear hD2 hb2 hbx2)
      go_ret3
      exact ⟨by have := HD2.out (by simp); subst this; rfl, HB2.out⟩
  · rw [if_pos hE] at hS
    rw [hS]
    clear hS
    unfold trip
    dsimp only
    have hE1 : (E != 0) = true := by simp [hE]
    clear hbd
    go_enter Try.func23, Try.ntmps23
    go_wp2_with (go_at_call 31; refine (HVV.out _ (by (repeat (first | exact Below.refl _ _ | exact below_drewN _ | refine Below.drew ?_ | refine Below.alloc ?_ (by simp) _ | refine Below.setCell ?_ (by simp) _ | refine below_drewN' ?_ _))) (Box.made w 58 [_, .int .i64 0])).mono ?_; rintro e w2 ⟨rfl, hb2, D2, hbx2, hD2⟩; have HB2 := hid hb2; have HX2 := hid hbx2; have HD2 := hid hD2; obtain ⟨b0, b1, c0, c1⟩ := HX2.out.two; clear hD2 hb2 hbx2)
    go_ret3
    exact ⟨rfl, HB2.out⟩

theorem wellSurvey' (v : Value) (xs : List Int) (w : World) (h : Sl .u8 w v xs) (hu : U8 xs) {e : Int} {p d : Nat} (hr : wellS xs = ⟨e, p, d⟩) :
    Calls Try.prog 23 #[v] w fun x w' => x = .returned (.tuple #[.int .i64 (d : Int), .int .i64 (p : Int), .int .i64 e]) ∧ Below w.heap.size w w' := by
  have := wellSurvey v xs w h hu
  rw [hr] at this
  exact this

theorem wellCheck (v : Value) (xs : List Int) (w : World) (h : Sl .u8 w v xs) (hu : U8 xs) {e : Int} {p d : Nat} (hr : wellS xs = ⟨e, p, d⟩) :
    Calls Try.prog 11 #[v] w fun x w' => x = .returned (.tuple #[.int .i64 (p : Int), .int .i64 e]) ∧ Below w.heap.size w w' := by
  have HS := hid h
  have HR := hid hr
  obtain ⟨a, cap, rfl, -, -, -⟩ := h
  clear hr
  go_enter Try.func11, Try.ntmps11
  go_wp2_with (go_at_call 23; refine (wellSurvey' _ xs _ HS.out hu HR.out).mono ?_; rintro x w2 ⟨rfl, hb2⟩; have HB2 := hid hb2)
  go_ret2
  exact ⟨rfl, HB2.out⟩

theorem wellDepth (v : Value) (xs : List Int) (w : World) (h : Sl .u8 w v xs) (hu : U8 xs) {e : Int} {p d : Nat} (hr : wellS xs = ⟨e, p, d⟩) :
    Calls Try.prog 13 #[v] w fun x w' => x = .returned (.tuple #[.int .i64 (d : Int), .int .i64 e]) ∧ Below w.heap.size w w' := by
  have HS := hid h
  have HR := hid hr
  obtain ⟨a, cap, rfl, -, -, -⟩ := h
  clear hr
  go_enter Try.func13, Try.ntmps13
  go_wp2_with (go_at_call 23; refine (wellSurvey' _ xs _ HS.out hu HR.out).mono ?_; rintro x w2 ⟨rfl, hb2⟩; have HB2 := hid hb2)
  go_ret2
  exact ⟨rfl, HB2.out⟩

end Go.Proofs.Ytgjjncoelbhpeaa
