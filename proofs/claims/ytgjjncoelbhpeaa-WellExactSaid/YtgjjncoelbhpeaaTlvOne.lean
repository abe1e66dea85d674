/- Contracts of package tlv's copy and first value, and what a header's reading says in one form. -/
import Derived.Test.YtgjjncoelbhpeaaTlv3
import Derived.Deep.RegionHeld3
namespace Go.Proofs.Ytgjjncoelbhpeaa
open Go.RowKit

theorem tlvFresh (v : Value) (xs : List Int) (w : World) (h : Sl .u8 w v xs) (hl : xs.length ≤ 100000000000000) :
    Calls Try.prog 28 #[v] w fun e w' => ∃ v', e = .returned v' ∧ Own .u8 5 w.heap.size w' v' xs ∧ Below w.heap.size w w' := by
  have H := hid h
  obtain ⟨a, cap, rfl, -, -, -⟩ := h
  obtain ⟨i0, hi, hz0, hz1, hz2⟩ := info_parts Try.infoU8
  go_enter Try.func28, Try.ntmps28
  go_wp2_with (first
    | (at_make; refine wpList_make_own _ rfl _ _ 22 rfl w.heap.size 5 i0 (.int .u8 0) 1 Try.underlying22 hi hz0 hz1 _ _ _ xs.length rfl rfl rfl (by rw [hz2]; omega) (by unfold maxLen; omega) (by omega) ?_; intro w1 ho1 hg1; have hb1 := hid ((Below.refl w.heap.size w).grown hg1 (by omega) (fun _ h => by cases h)))
    | (at_builtin; refine wpList_app _ rfl _ _ 22 rfl .u8 w.heap.size 5 1 Try.underlying22 Try.infoU8 _ [] xs rfl ho1 _ rfl (H.out.below hb1.out) (by unfold maxLen; simp; omega) (by simp; omega) (by have := hb1.out.size; omega) ?_; intro v' w' ho hg hb hn))
  go_ret
  exact ⟨_, rfl, ho, hb1.out.trans hb⟩

theorem loadHead {c0 c1 c2 c3 c4 : Value} {B : Nat} {w : World} (h : Box 35 [c0, c1, c2, c3, c4] B w) :
    (loadVar 35 ⟨B, 0, none⟩).run Try.prog w = .ok (.agg #[c0, c1, c2, c3, c4]) w := by
  obtain ⟨k0, k1, k2, k3, k4⟩ := h.five
  simp [go_sem, k0, k1, k2, k3, k4]
theorem results_cell4 {fn : Func} {p u v x : Tmp} {ty : TypeId} (h : fn.results = #[.cell p ty, .tmp u, .tmp v, .tmp x]) (tmps : Array Value) (P : Program) (w : World) :
    (results fn tmps).run P w = ((asAddr (tmps.getD p undef)).run P w).andThen fun a w₁ => ((loadVar ty a).run P w₁).andThen fun y w₂ => .ok (.tuple #[y, tmps.getD u undef, tmps.getD v undef, tmps.getD x undef]) w₂ := by
  simp only [results, h]
  simp [Sem.run_bind, Result.andThen]
theorem asAddr_ptr (P : Program) (w : World) (a : Addr) : (asAddr (.pointer (some a))).run P w = .ok a w := by simp [asAddr]
theorem results_hd3 {fn : Func} {p u v x : Tmp} (h : fn.results = #[.cell p 35, .tmp u, .tmp v, .tmp x]) {tmps : Array Value} {B : Nat} (hp : tmps.getD p undef = .pointer (some ⟨B, 0, none⟩)) {w : World}
    {c0 c1 c2 c3 c4 : Value} (hb : Box 35 [c0, c1, c2, c3, c4] B w) :
    (results fn tmps).run Try.prog w = .ok (.tuple #[.agg #[c0, c1, c2, c3, c4], tmps.getD u undef, tmps.getD v undef, tmps.getD x undef]) w := by
  rw [results_cell4 h, hp, asAddr_ptr]
  simp only [Result.andThen]
  rw [loadHead hb]

set_option maxHeartbeats 1000000 in
theorem tlvOne (v : Value) (xs : List Int) (w : World) (h : Sl .u8 w v xs) (hu : U8 xs) (hl : xs.length ≤ 100000000000000) :
    Calls Try.prog 21 #[v] w fun e w' => ∃ c r, e = .returned (.tuple #[(oneS xs).1.val, c, r, .int .i64 (oneS xs).2.2.2]) ∧
      Own .u8 5 w.heap.size w' c (oneS xs).2.1 ∧ Own .u8 5 w.heap.size w' r (oneS xs).2.2.1 ∧ Below w.heap.size w w' := by
  have HS := hid h
  have hb := rd_bd xs hu
  have he := rd_err xs
  have HR : ∀ W, Sl .u8 W v xs → _ := fun W hW => readHead v xs W hW hu
  have ho : oneS xs = oneS xs := rfl
  conv at ho => rhs; unfold oneS
  obtain ⟨⟨cls, tag, cons, len, size⟩, E, hrd⟩ : ∃ h E, rd xs = (h, E) := ⟨_, _, rfl⟩
  rw [hrd] at hb he HR ho
  dsimp only at hb he HR ho
  clear hrd
  obtain ⟨a, cap, rfl, q, -, -⟩ := h
  have HRR := hid HR
  clear HR
  by_cases hE : E = 0
  · subst hE
    obtain ⟨⟨_, _, l0, l1⟩, s0, s1⟩ := hb rfl
    dsimp only at l0 l1 s0 s1
    rw [if_neg (by simp)] at ho
    clear he hb q
    by_cases hL : (xs.length : Int) - size < len
    · rw [if_pos hL] at ho
      rw [ho]
      clear ho
      have HL := hid hL
      unfold Hd.val
      dsimp only
      go_enter Try.func21, Try.ntmps21
      go_wp2_with (go_at_call 22; refine (HRR.out _ (HS.out.below (by (repeat (first | exact Below.refl _ _ | exact below_drewN _ | refine Below.drew ?_ | refine Below.alloc ?_ (by simp) _ | refine Below.setCell ?_ (by simp) _ | refine below_drewN' ?_ _))))).mono ?_; rintro e w1 ⟨rfl, hb1⟩; have HX1 := hid (Box.below (Box.made w 35 [.int .i64 0, .int .i64 0, .bool false, .int .i64 0, .int .i64 0]) hb1 (by simp)); obtain ⟨k0, k1, k2, k3, k4⟩ := HX1.out.five; obtain ⟨f0, f1, f2, f3, f4⟩ := HX1.out.ice5; have hz1 := hb1.size; simp at hz1; have HB1 := hid hb1; clear hb1; unfold Hd.val; dsimp only)
      have HX2 := HX1.out.store5 (.int .i64 cls) (.int .i64 tag) (.bool cons) (.int .i64 len) (.int .i64 size)
      have HX3 := HX2.store5 (.int .i64 0) (.int .i64 0) (.bool false) (.int .i64 0) (.int .i64 0)
      refine bodyPost_ret (results_hd3 rfl rfl HX3) rfl ⟨_, _, rfl, Own.nil _ _ _ _, Own.nil _ _ _ _, below_store5 (below_store5 (Below.trans ?_ (HB1.out.mono (by simp))) (Nat.le_refl _)) (Nat.le_refl _)⟩
      (repeat (first | exact Below.refl _ _ | exact below_drewN _ | refine Below.drew ?_ | refine Below.alloc ?_ (by simp) _ | refine Below.setCell ?_ (by simp) _ | refine below_drewN' ?_ _))
    · rw [if_neg hL] at ho
      rw [ho]
      clear ho
      dsimp only
      unfold Hd.val
      dsimp only
      have hle : size + len ≤ xs.length := by omega
      clear hL
      go_enter Try.func21, Try.ntmps21
      go_wp2_with (go_at_call 22; refine (HRR.out _ (HS.out.below (by (repeat (first | exact Below.refl _ _ | exact below_drewN _ | refine Below.drew ?_ | refine Below.alloc ?_ (by simp) _ | refine Below.setCell ?_ (by simp) _ | refine below_drewN' ?_ _))))).mono ?_; rintro e w1 ⟨rfl, hb1⟩; have HX1 := hid (Box.below (Box.made w 35 [.int .i64 0, .int .i64 0, .bool false, .int .i64 0, .int .i64 0]) hb1 (by simp)); obtain ⟨k0, k1, k2, k3, k4⟩ := HX1.out.five; obtain ⟨f0, f1, f2, f3, f4⟩ := HX1.out.ice5; have hz1 := hb1.size; simp at hz1; have HB1 := hid hb1; clear hb1; unfold Hd.val; dsimp only)
      have HX2 := hid (HX1.out.store5 (.int .i64 cls) (.int .i64 tag) (.bool cons) (.int .i64 len) (.int .i64 size))
      have hb2 := hid (below_store5 (base := w.heap.size) (B := w.heap.size) (a := .int .i64 cls) (b := .int .i64 tag) (c := .bool cons) (d := .int .i64 len) (e := .int .i64 size) (Below.trans (Below.alloc (Below.refl w.heap.size w) (Nat.le_refl _) _) (HB1.out.mono (by simp))) (Nat.le_refl _))
      clear k0 k1 k2 k3 k4 f0 f1 f2 f3 f4
      generalize (((((w1.setCell ⟨w.heap.size, 0, none⟩ (.int .i64 cls)).setCell ⟨w.heap.size, 1, none⟩ (.int .i64 tag)).setCell ⟨w.heap.size, 2, none⟩ (.bool cons)).setCell ⟨w.heap.size, 3, none⟩ (.int .i64 len)).setCell ⟨w.heap.size, 4, none⟩ (.int .i64 size)) = W2 at HX2 hb2 ⊢
      obtain ⟨n, rfl⟩ := Int.eq_ofNat_of_zero_le (show 0 ≤ size by omega)
      obtain ⟨m, rfl⟩ := Int.eq_ofNat_of_zero_le l0
      obtain ⟨vc, hc1, hc2, hcs⟩ := cut_all (P := Try.prog) w 22 5 Try.underlying22 Try.infoU8 .u8 _ xs HS.out (some (.int .i64 (n : Int))) (some (.int .i64 ((n : Int) + m))) n (n + m) (.inr ⟨_, rfl⟩) (.inr ⟨_, rfl⟩) (by omega) (by omega)
      obtain ⟨vr, hr1, hr2, hrs⟩ := cut_all (P := Try.prog) w 22 5 Try.underlying22 Try.infoU8 .u8 _ xs HS.out (some (.int .i64 ((n : Int) + m))) none (n + m) xs.length (.inr ⟨_, rfl⟩) (.inl ⟨rfl, rfl⟩) (by omega) (by omega)
      have HCS := hid hcs
      have HRS := hid hrs
      clear hcs hrs
      obtain ⟨k0, k1, k2, k3, k4⟩ := HX2.out.five
      obtain ⟨f0, f1, f2, f3, f4⟩ := HX2.out.ice5
      have hz2 := hb2.out.size
      have tok : True := trivial
      go_region_held3 (fun w' => w'.cell? ⟨w.heap.size, 0, none⟩ = some (.int .i64 cls) ∧ w'.cell? ⟨w.heap.size, 1, none⟩ = some (.int .i64 tag) ∧ w'.cell? ⟨w.heap.size, 2, none⟩ = some (.bool cons) ∧ w'.cell? ⟨w.heap.size, 3, none⟩ = some (.int .i64 m) ∧ w'.cell? ⟨w.heap.size, 4, none⟩ = some (.int .i64 n))
        (first | with_reducible exact (HX4.out.store5 (.int .i64 cls) (.int .i64 tag) (.bool cons) (.int .i64 m) (.int .i64 n)).five | with_reducible exact HX4.out.five | with_reducible exact HX3.out.five | go_keep)
        (first
          | (go_at_call 28; have _t := tok; clear tok; refine (tlvFresh vc _ _ (HCS.out _ (HS.out.below (below_drewN' hb2.out 1))) (by simp; omega)).mono ?_; rintro e w3 ⟨c, rfl, hco, hcb⟩; have HX3 := hid (Box.below (Box.drewN HX2.out 1) hcb HX2.out.lt); have HB3 := hid (Below.trans (below_drewN' hb2.out 1) (hcb.mono hz2)); have hz3 := hcb.size)
          | (go_at_call 28; refine (tlvFresh vr _ _ (HRS.out _ (HS.out.below HB3.out)) (by simp; omega)).mono ?_; rintro e w4 ⟨r, rfl, hro, hrb⟩; have HX4 := hid (Box.below HX3.out hrb HX3.out.lt); have HB4 := hid (Below.trans HB3.out (hrb.mono (Nat.le_trans hz2 hz3))); obtain ⟨k0, k1, k2, k3, k4⟩ := HX4.out.five; obtain ⟨f0, f1, f2, f3, f4⟩ := HX4.out.ice5))
      go_wp2
      have HX5 := HX4.out.store5 (.int .i64 cls) (.int .i64 tag) (.bool cons) (.int .i64 m) (.int .i64 n)
      refine bodyPost_ret (results_hd3 rfl rfl HX5) rfl ⟨_, _, rfl, ?_, ?_, below_store5 HB4.out (Nat.le_refl _)⟩
      · have := (hco.mono (show w.heap.size ≤ _ from hz2)).below hrb
        have := this.store5 HX4.out (by decide) (.int .i64 cls) (.int .i64 tag) (.bool cons) (.int .i64 m) (.int .i64 n)
        simpa using this
      · have := hro.mono (show w.heap.size ≤ _ from Nat.le_trans hz2 hz3)
        have := this.store5 HX4.out (by decide) (.int .i64 cls) (.int .i64 tag) (.bool cons) (.int .i64 m) (.int .i64 n)
        rw [List.take_of_length_le (by simp)] at this
        rw [show ((n : Int) + (m : Int)).toNat = n + m by omega]
        exact this
  · have hz := he hE
    rw [if_pos hE] at ho
    rw [ho]
    rw [hz] at HRR
    clear ho hb q he hz
    have hE1 : (E != 0) = true := by simp [hE]
    clear hE
    unfold Hd.val
    dsimp only
    go_enter Try.func21, Try.ntmps21
    go_wp2_with (go_at_call 22; refine (HRR.out _ (HS.out.below (by (repeat (first | exact Below.refl _ _ | exact below_drewN _ | refine Below.drew ?_ | refine Below.alloc ?_ (by simp) _ | refine Below.setCell ?_ (by simp) _ | refine below_drewN' ?_ _))))).mono ?_; rintro e w1 ⟨rfl, hb1⟩; have HX1 := hid (Box.below (Box.made w 35 [.int .i64 0, .int .i64 0, .bool false, .int .i64 0, .int .i64 0]) hb1 (by simp)); obtain ⟨k0, k1, k2, k3, k4⟩ := HX1.out.five; obtain ⟨f0, f1, f2, f3, f4⟩ := HX1.out.ice5; have hz1 := hb1.size; simp at hz1; have HB1 := hid hb1; clear hb1; unfold Hd.val Hd.zero; dsimp only)
    have HX2 := HX1.out.store5 (.int .i64 0) (.int .i64 0) (.bool false) (.int .i64 0) (.int .i64 0)
    have HX3 := HX2.store5 (.int .i64 0) (.int .i64 0) (.bool false) (.int .i64 0) (.int .i64 0)
    refine bodyPost_ret (results_hd3 rfl rfl HX3) rfl ⟨_, _, rfl, Own.nil _ _ _ _, Own.nil _ _ _ _, below_store5 (below_store5 (Below.trans ?_ (HB1.out.mono (by simp))) (Nat.le_refl _)) (Nat.le_refl _)⟩
    (repeat (first | exact Below.refl _ _ | exact below_drewN _ | refine Below.drew ?_ | refine Below.alloc ?_ (by simp) _ | refine Below.setCell ?_ (by simp) _ | refine below_drewN' ?_ _))

theorem readHead' (v : Value) (xs : List Int) (w : World) (h : Sl .u8 w v xs) (hu : U8 xs) {c t l s E : Int} {b : Bool} (hr : rd xs = (⟨c, t, b, l, s⟩, E)) :
    Calls Try.prog 22 #[v] w fun e w' => e = .returned (.tuple #[.agg #[.int .i64 c, .int .i64 t, .bool b, .int .i64 l, .int .i64 s], .int .i64 E]) ∧ Below w.heap.size w w' :=
  (readHead v xs w h hu).mono fun _ _ ⟨he, hw⟩ => ⟨by rw [he, hr]; rfl, hw⟩

theorem u8_of (xs : List Int) (h : xs.all (fun x => decide (0 ≤ x ∧ x ≤ 255)) = true) : U8 xs := fun x hx => by
  have := List.all_eq_true.1 h x hx
  simpa using this

theorem oneS_of {zs : List Int} {hd : Hd} (hr : rd zs = (hd, 0)) (h : hd.len ≤ zs.length - hd.size) : oneS zs = (hd, (zs.drop hd.size.toNat).take hd.len.toNat, zs.drop (hd.size + hd.len).toNat, 0) := by
  have e1 : ¬ ((rd zs).2 ≠ 0) := by rw [hr]; simp
  have e2 : ¬ ((rd zs).1.len > zs.length - (rd zs).1.size) := by rw [hr]; exact Int.not_lt.2 h
  unfold oneS
  rw [if_neg e1, if_neg e2, hr]
theorem tlvOne' (v : Value) (zs : List Int) (w : World) (h : Sl .u8 w v zs) (hu : U8 zs) (hl : zs.length ≤ 100000000000000) {c t l s E : Int} {b : Bool} {xs ms : List Int} (ho : oneS zs = (⟨c, t, b, l, s⟩, xs, ms, E)) :
    Calls Try.prog 21 #[v] w fun e w' => ∃ y r, e = .returned (.tuple #[.agg #[.int .i64 c, .int .i64 t, .bool b, .int .i64 l, .int .i64 s], y, r, .int .i64 E]) ∧
      Own .u8 5 w.heap.size w' y xs ∧ Own .u8 5 w.heap.size w' r ms ∧ Below w.heap.size w w' := by
  have := tlvOne v zs w h hu hl
  rw [ho] at this
  exact this


theorem results_cell2 {fn : Func} {p u : Tmp} {ty : TypeId} (h : fn.results = #[.cell p ty, .tmp u]) (tmps : Array Value) (P : Program) (w : World) :
    (results fn tmps).run P w = ((asAddr (tmps.getD p undef)).run P w).andThen fun a w₁ => ((loadVar ty a).run P w₁).andThen fun y w₂ => .ok (.tuple #[y, tmps.getD u undef]) w₂ := by
  simp only [results, h]
  simp [Sem.run_bind, Result.andThen]
theorem results_hd1 {fn : Func} {p u : Tmp} (h : fn.results = #[.cell p 35, .tmp u]) {tmps : Array Value} {B : Nat} (hp : tmps.getD p undef = .pointer (some ⟨B, 0, none⟩)) {w : World}
    {c0 c1 c2 c3 c4 : Value} (hb : Box 35 [c0, c1, c2, c3, c4] B w) :
    (results fn tmps).run Try.prog w = .ok (.tuple #[.agg #[c0, c1, c2, c3, c4], tmps.getD u undef]) w := by
  rw [results_cell2 h, hp, asAddr_ptr]
  simp only [Result.andThen]
  rw [loadHead hb]


end Go.Proofs.Ytgjjncoelbhpeaa
