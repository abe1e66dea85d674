/- Contract of Read of package tlv: it answers what the plain function says and changes nothing that was there. -/
import Derived.Test.YtgjjncoelbhpeaaTlv2
namespace Go.Proofs.Ytgjjncoelbhpeaa
open Go.RowKit

theorem readTag' (v : Value) (xs : List Int) (w : World) (h : Sl .u8 w v xs) (hu : U8 xs) {T N E : Int} (hr : rdTag true 0 xs = (T, N, E)) :
    Calls Try.prog 29 #[v] w fun e w' => e = .returned (.tuple #[.int .i64 T, .int .i64 N, .int .i64 E]) ∧ w = w' :=
  (readTag v xs w h hu).mono fun _ _ ⟨he, hw⟩ => ⟨by rw [he, hr]; rfl, hw⟩
theorem readLength' (v : Value) (xs : List Int) (w : World) (h : Sl .u8 w v xs) (hu : U8 xs) {T N E : Int} (hr : rdLen xs = (T, N, E)) :
    Calls Try.prog 30 #[v] w fun e w' => e = .returned (.tuple #[.int .i64 T, .int .i64 N, .int .i64 E]) ∧ w = w' :=
  (readLength v xs w h hu).mono fun _ _ ⟨he, hw⟩ => ⟨by rw [he, hr]; rfl, hw⟩

section
variable {x : Int} {r : List Int} {T N E L M F : Int}
theorem rd_long_bad (h : x % 32 = 31) (hT : rdTag true 0 r = (T, N, E)) (hE : E ≠ 0) : rd (x :: r) = (Hd.zero, E) := by
  simp [rd, h, hT, hE]
theorem rd_long_fin (h : x % 32 = 31) (hT : rdTag true 0 r = (T, N, 0)) (hL : rdLen (r.drop N.toNat) = (L, M, F)) : rd (x :: r) = if F = 0 then (⟨x / 64, T, decide (x / 32 % 2 = 1), L, 1 + N + M⟩, 0) else (Hd.zero, F) := by
  simp [rd, h, hT, rdFin, hL]
theorem rd_short_fin (h : ¬ x % 32 = 31) (hL : rdLen r = (L, M, F)) : rd (x :: r) = if F = 0 then (⟨x / 64, x % 32, decide (x / 32 % 2 = 1), L, 1 + M⟩, 0) else (Hd.zero, F) := by
  simp [rd, h, rdFin, hL]
end

theorem readHead (v : Value) (xs : List Int) (w : World) (h : Sl .u8 w v xs) (hu : U8 xs) :
    Calls Try.prog 22 #[v] w fun e w' => e = .returned (.tuple #[(rd xs).1.val, .int .i64 (rd xs).2]) ∧ Below w.heap.size w w' := by
  have m := h.len
  have hS := h
  obtain ⟨a, cap, rfl, q, mcap, h⟩ := h
  rcases Nat.eq_zero_or_pos xs.length with h0 | h0
  · have hx : xs = [] := List.eq_nil_of_length_eq_zero h0
    subst hx
    clear q m h h0 hS
    simp only [List.length_nil]
    go_enter Try.func22, Try.ntmps22
    go_wp2
    exact bodyPost_ret (v := .tuple #[Hd.zero.val, .int .i64 2]) (by simp [results, Try.results22, go_sem, Hd.zero, Hd.val]) rfl ⟨rfl, by (repeat (first | exact Below.refl _ _ | exact below_drewN _ | refine Below.drew ?_ | refine Below.alloc ?_ (by simp) _ | refine Below.setCell ?_ (by simp) _ | refine below_drewN' ?_ _))⟩
  rcases h with rfl | ⟨b, o, rfl, hb, c⟩
  · omega
  · have hb := hb h0
    obtain ⟨x, r, rfl⟩ : ∃ x r, xs = x :: r := by
      match xs, h0 with
      | x :: r, _ => exact ⟨x, r, rfl⟩
    have hx := hu.head
    have d0 : w.cell? ⟨b, o, none⟩ = some (.int .u8 x) := c 0 h0
    have C := hid c
    clear c
    have HQ := hid q
    have HC := hid mcap
    clear q mcap
    obtain ⟨len, hlen⟩ : ∃ len, len = (x :: r).length := ⟨_, rfl⟩
    rw [← hlen] at m h0 hS ⊢
    have HL := hid hlen
    clear hlen
    obtain ⟨hx0, hx1⟩ := hx
    have q1 := and_31 x hx0 hx1
    have q2 := and_32 x hx0 hx1
    have hn0 : ((len : Int) == 0) = false := by simp; omega
    have hn1 : (0 : Int) < (len : Int) := by omega
    have HS := hid hS
    clear hS
    go_enter Try.func22, Try.ntmps22
    go_wp2
    go_region
    obtain ⟨T, N, E, hT⟩ : ∃ T N E, rdTag true 0 r = (T, N, E) := ⟨_, _, _, rfl⟩
    have HT := hid hT
    clear hT
    obtain ⟨hN0, hN1, hT0, hT1⟩ : 0 ≤ N ∧ N ≤ r.length ∧ 0 ≤ T ∧ T ≤ 268435455 := by
      have := rdTag_bd r true 0 hu.tail (by omega)
      rw [HT.out] at this
      exact this
    have hlr : (len : Int) = r.length + 1 := by rw [HL.out]; simp
    have hN2 : N ≤ len - 1 := by omega
    have HLR := hid hlr
    clear hlr hN1
    by_cases ht : x % 32 = 31
    · by_cases hE : E = 0
      · have hE' := hid hE
        have hE2 : (E != 0) = false := by simp [hE]
        obtain ⟨L, M, F, hF⟩ : ∃ L M F, rdLen (r.drop N.toNat) = (L, M, F) := ⟨_, _, _, rfl⟩
        have HF := hid hF
        obtain ⟨hM0, hM1, hM2, hL0, hL1, _⟩ := rdLen_bd (r.drop N.toNat) (hu.tail.drop _)
        rw [hF] at hM0 hM1 hM2 hL0 hL1
        dsimp only at hM0 hM1 hM2 hL0 hL1
        have hNM : 1 + N + M ≤ len := by have := HLR.out; rw [List.length_drop] at hM2; omega
        clear hM2 hF hE
        go_wp2_with (first
          | (with_reducible refine at_from ?_; refine wpList_from _ rfl _ _ 22 rfl .u8 5 1 Try.underlying22 Try.infoU8 _ (x :: r) rfl (HS.out.below (by (repeat (first | exact Below.refl _ _ | exact below_drewN _ | refine Below.drew ?_ | refine Below.alloc ?_ (by simp) _ | refine Below.setCell ?_ (by simp) _ | refine below_drewN' ?_ _)))) _ _ rfl (by omega) (by have := HLR.out; simp; omega) ?_; intro v1 hv1)
          | (go_at_call 29; refine (readTag' v1 _ _ hv1 hu.tail HT.out).mono ?_; rintro e w' ⟨rfl, rfl⟩)
          | (go_at_call 30; refine (readLength' (T := L) (N := M) (E := F) _ _ _ hv1 (hu.drop _) (by rw [drop_one_add _ _ _ hN0, HF.out])).mono ?_; rintro e w' ⟨rfl, rfl⟩))
        · have hf : (F != 0) = true := by assumption
          exact bodyPost_ret (v := .tuple #[Hd.zero.val, .int .i64 F]) (by simp [results, Try.results22, go_sem, Hd.zero, Hd.val]) rfl ⟨by rw [rd_long_fin ht (by rw [HT.out, hE'.out]) HF.out, if_neg (by simpa using hf)], by (repeat (first | exact Below.refl _ _ | exact below_drewN _ | refine Below.drew ?_ | refine Below.alloc ?_ (by simp) _ | refine Below.setCell ?_ (by simp) _ | refine below_drewN' ?_ _))⟩
        · have hf : (F != 0) = false := by assumption
          exact bodyPost_ret (v := .tuple #[Hd.val ⟨x / 64, T, decide (x / 32 % 2 = 1), L, 1 + N + M⟩, .int .i64 0]) (by simp [results, Try.results22, go_sem, Hd.val]) rfl ⟨by rw [rd_long_fin ht (by rw [HT.out, hE'.out]) HF.out, if_pos (by simpa using hf)], by (repeat (first | exact Below.refl _ _ | exact below_drewN _ | refine Below.drew ?_ | refine Below.alloc ?_ (by simp) _ | refine Below.setCell ?_ (by simp) _ | refine below_drewN' ?_ _))⟩
      · have hE' := hid hE
        have hE2 : (E != 0) = true := by simp [hE]
        clear hE
        go_wp2_with (first
          | (with_reducible refine at_from ?_; refine wpList_from _ rfl _ _ 22 rfl .u8 5 1 Try.underlying22 Try.infoU8 _ (x :: r) rfl (HS.out.below (by (repeat (first | exact Below.refl _ _ | exact below_drewN _ | refine Below.drew ?_ | refine Below.alloc ?_ (by simp) _ | refine Below.setCell ?_ (by simp) _ | refine below_drewN' ?_ _)))) _ _ rfl (by omega) (by simp; omega) ?_; intro v1 hv1)
          | (go_at_call 29; refine (readTag' v1 _ _ hv1 hu.tail HT.out).mono ?_; rintro e w' ⟨rfl, rfl⟩))
        exact bodyPost_ret (v := .tuple #[Hd.zero.val, .int .i64 E]) (by simp [results, Try.results22, go_sem, Hd.zero, Hd.val]) rfl ⟨by rw [rd_long_bad ht HT.out hE'.out], by (repeat (first | exact Below.refl _ _ | exact below_drewN _ | refine Below.drew ?_ | refine Below.alloc ?_ (by simp) _ | refine Below.setCell ?_ (by simp) _ | refine below_drewN' ?_ _))⟩
    · obtain ⟨L, M, F, hF⟩ : ∃ L M F, rdLen r = (L, M, F) := ⟨_, _, _, rfl⟩
      have HF := hid hF
      obtain ⟨hM0, hM1, hM2, hL0, hL1, _⟩ := rdLen_bd r hu.tail
      rw [hF] at hM0 hM1 hM2 hL0 hL1
      dsimp only at hM0 hM1 hM2 hL0 hL1
      have hNM : 1 + M ≤ len := by have := HLR.out; omega
      clear hM2 hF
      have ht' := hid ht
      have ht2 : (x % 32 == 31) = false := by simp [ht]
      clear ht
      go_wp2_with (first
        | (with_reducible refine at_from ?_; refine wpList_from _ rfl _ _ 22 rfl .u8 5 1 Try.underlying22 Try.infoU8 _ (x :: r) rfl (HS.out.below (by (repeat (first | exact Below.refl _ _ | exact below_drewN _ | refine Below.drew ?_ | refine Below.alloc ?_ (by simp) _ | refine Below.setCell ?_ (by simp) _ | refine below_drewN' ?_ _)))) _ _ rfl (by omega) (by simp; omega) ?_; intro v1 hv1)
        | (go_at_call 30; refine (readLength' (T := L) (N := M) (E := F) _ _ _ hv1 (hu.drop _) HF.out).mono ?_; rintro e w' ⟨rfl, rfl⟩))
      · have hf : (F != 0) = true := by assumption
        exact bodyPost_ret (v := .tuple #[Hd.zero.val, .int .i64 F]) (by simp [results, Try.results22, go_sem, Hd.zero, Hd.val]) rfl ⟨by rw [rd_short_fin ht'.out HF.out, if_neg (by simpa using hf)], by (repeat (first | exact Below.refl _ _ | exact below_drewN _ | refine Below.drew ?_ | refine Below.alloc ?_ (by simp) _ | refine Below.setCell ?_ (by simp) _ | refine below_drewN' ?_ _))⟩
      · have hf : (F != 0) = false := by assumption
        exact bodyPost_ret (v := .tuple #[Hd.val ⟨x / 64, x % 32, decide (x / 32 % 2 = 1), L, 1 + M⟩, .int .i64 0]) (by simp [results, Try.results22, go_sem, Hd.val]) rfl ⟨by rw [rd_short_fin ht'.out HF.out, if_pos (by simpa using hf)], by (repeat (first | exact Below.refl _ _ | exact below_drewN _ | refine Below.drew ?_ | refine Below.alloc ?_ (by simp) _ | refine Below.setCell ?_ (by simp) _ | refine below_drewN' ?_ _))⟩
end Go.Proofs.Ytgjjncoelbhpeaa
