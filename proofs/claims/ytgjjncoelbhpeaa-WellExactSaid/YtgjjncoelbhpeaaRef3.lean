/- Contracts of the document's own answers for the first value and for a wrapped content. -/
import Derived.Test.YtgjjncoelbhpeaaRef2
namespace Go.Proofs.Ytgjjncoelbhpeaa
open Go.RowKit

theorem results_cell3 {fn : Func} {p u v : Tmp} {ty : TypeId} (h : fn.results = #[.cell p ty, .tmp u, .tmp v]) (tmps : Array Value) (P : Program) (w : World) :
    (results fn tmps).run P w = ((asAddr (tmps.getD p undef)).run P w).andThen fun a w₁ => ((loadVar ty a).run P w₁).andThen fun y w₂ => .ok (.tuple #[y, tmps.getD u undef, tmps.getD v undef]) w₂ := by
  simp only [results, h]
  simp [Sem.run_bind, Result.andThen]
theorem results_hd2 {fn : Func} {p u v : Tmp} (h : fn.results = #[.cell p 35, .tmp u, .tmp v]) {tmps : Array Value} {B : Nat} (hp : tmps.getD p undef = .pointer (some ⟨B, 0, none⟩)) {w : World}
    {c0 c1 c2 c3 c4 : Value} (hb : Box 35 [c0, c1, c2, c3, c4] B w) :
    (results fn tmps).run Try.prog w = .ok (.tuple #[.agg #[c0, c1, c2, c3, c4], tmps.getD u undef, tmps.getD v undef]) w := by
  rw [results_cell3 h, hp, asAddr_ptr]
  simp only [Result.andThen]
  rw [loadHead hb]

theorem refRead' (v : Value) (xs : List Int) (w : World) (h : Sl .u8 w v xs) (hu : U8 xs) {c t l s E : Int} {b : Bool} (hr : rd xs = (⟨c, t, b, l, s⟩, E)) :
    Calls Try.prog 17 #[v] w fun e w' => e = .returned (.tuple #[.agg #[.int .i64 c, .int .i64 t, .bool b, .int .i64 l, .int .i64 s], .int .i64 E]) ∧ Below w.heap.size w w' :=
  (refRead v xs w h hu).mono fun _ _ ⟨he, hw⟩ => ⟨by rw [he, hr]; rfl, hw⟩

/-- the first value's header, where its content ends, the error -/
def oneR (xs : List Int) : Hd × Int × Int := if (oneS xs).2.2.2 = 0 then ((oneS xs).1, (oneS xs).1.size + (oneS xs).1.len, 0) else (Hd.zero, 0, (oneS xs).2.2.2)

set_option maxHeartbeats 1000000 in
theorem refOne (v : Value) (xs : List Int) (w : World) (h : Sl .u8 w v xs) (hu : U8 xs) :
    Calls Try.prog 26 #[v] w fun e w' => e = .returned (.tuple #[(oneR xs).1.val, .int .i64 (oneR xs).2.1, .int .i64 (oneR xs).2.2]) ∧ Below w.heap.size w w' := by
  have hlx := h.len
  have HS := hid h
  have hb := rd_bd xs hu
  have he := rd_err xs
  have ho : oneS xs = oneS xs := rfl
  conv at ho => rhs; unfold oneS
  obtain ⟨⟨cls, tag, cons, len, size⟩, E, hrd⟩ : ∃ h E, rd xs = (h, E) := ⟨_, _, rfl⟩
  have HR := hid hrd
  rw [hrd] at hb he ho
  dsimp only at hb he ho
  clear hrd
  obtain ⟨a, cap, rfl, q, -, -⟩ := h
  have hz5 : ∀ W, Box 35 [.int .i64 0, .int .i64 0, .bool false, .int .i64 0, .int .i64 0] w.heap.size W → True := fun _ _ => trivial
  clear hz5
  by_cases hE : E = 0
  · subst hE
    obtain ⟨⟨_, _, l0, l1⟩, s0, s1⟩ := hb rfl
    dsimp only at l0 l1 s0 s1
    rw [if_neg (by simp)] at ho
    clear he hb q
    by_cases hL : (xs.length : Int) - size < len
    · rw [if_pos hL] at ho
      have hor : Hid (oneR xs = (Hd.zero, 0, 2)) := by show _ = _; unfold oneR; rw [ho]; simp
      clear ho
      go_enter Try.func26, Try.ntmps26
      go_wp2_with (go_at_call 17; refine (refRead' _ xs _ (HS.out.below (by (repeat (first | exact Below.refl _ _ | exact below_drewN _ | refine Below.drew ?_ | refine Below.alloc ?_ (by simp) _ | refine Below.setCell ?_ (by simp) _ | refine below_drewN' ?_ _)))) hu HR.out).mono ?_; rintro e w1 ⟨rfl, hb1⟩; have HX1 := hid (Box.below (Box.made w 35 [.int .i64 0, .int .i64 0, .bool false, .int .i64 0, .int .i64 0]) hb1 (by simp)); obtain ⟨k0, k1, k2, k3, k4⟩ := HX1.out.five; obtain ⟨f0, f1, f2, f3, f4⟩ := HX1.out.ice5; have hz1 := hb1.size; simp at hz1; have hlt1 := HX1.out.lt; have HB1 := hid (Below.trans (show Below w.heap.size w _ by (repeat (first | exact Below.refl _ _ | exact below_drewN _ | refine Below.drew ?_ | refine Below.alloc ?_ (by simp) _ | refine Below.setCell ?_ (by simp) _ | refine below_drewN' ?_ _))) (hb1.mono (by simp))); clear hb1)
      refine bodyPost_ret (results_hd2 rfl rfl ((HX1.out.store5 (.int .i64 0) (.int .i64 0) (.bool false) (.int .i64 0) (.int .i64 0)).alloc _)) rfl ⟨by rw [hor.out]; rfl, (below_store5 HB1.out (Nat.le_refl _)).alloc (by simp [World.setCell]; omega) _⟩
    · rw [if_neg hL] at ho
      have hor : Hid (oneR xs = (⟨cls, tag, cons, len, size⟩, size + len, 0)) := by show _ = _; unfold oneR; rw [ho]; simp
      clear ho
      have hle : size + len ≤ xs.length := by omega
      clear hL
      go_enter Try.func26, Try.ntmps26
      go_wp2_with (go_at_call 17; refine (refRead' _ xs _ (HS.out.below (by (repeat (first | exact Below.refl _ _ | exact below_drewN _ | refine Below.drew ?_ | refine Below.alloc ?_ (by simp) _ | refine Below.setCell ?_ (by simp) _ | refine below_drewN' ?_ _)))) hu HR.out).mono ?_; rintro e w1 ⟨rfl, hb1⟩; have HX1 := hid (Box.below (Box.made w 35 [.int .i64 0, .int .i64 0, .bool false, .int .i64 0, .int .i64 0]) hb1 (by simp)); obtain ⟨k0, k1, k2, k3, k4⟩ := HX1.out.five; obtain ⟨f0, f1, f2, f3, f4⟩ := HX1.out.ice5; have hz1 := hb1.size; simp at hz1; have hlt1 := HX1.out.lt; have HB1 := hid (Below.trans (show Below w.heap.size w _ by (repeat (first | exact Below.refl _ _ | exact below_drewN _ | refine Below.drew ?_ | refine Below.alloc ?_ (by simp) _ | refine Below.setCell ?_ (by simp) _ | refine below_drewN' ?_ _))) (hb1.mono (by simp))); clear hb1)
      go_region
      go_wp2
      refine bodyPost_ret (results_hd2 rfl rfl (Box.drew ((HX1.out.store5 (.int .i64 cls) (.int .i64 tag) (.bool cons) (.int .i64 len) (.int .i64 size)).alloc _))) rfl ⟨by rw [hor.out]; rfl, Below.drew ((below_store5 HB1.out (Nat.le_refl _)).alloc (by simp [World.setCell]; omega) _)⟩
  · have hz := he hE
    rw [if_pos hE] at ho
    have hor : Hid (oneR xs = (Hd.zero, 0, E)) := by show _ = _; unfold oneR; rw [ho]; simp [hE]
    unfold Hd.zero at hz
    rw [hz] at HR
    clear ho hb q he hz
    have hE1 : (E != 0) = true := by simp [hE]
    clear hE
    go_enter Try.func26, Try.ntmps26
    go_wp2_with (go_at_call 17; refine (refRead' _ xs _ (HS.out.below (by (repeat (first | exact Below.refl _ _ | exact below_drewN _ | refine Below.drew ?_ | refine Below.alloc ?_ (by simp) _ | refine Below.setCell ?_ (by simp) _ | refine below_drewN' ?_ _)))) hu HR.out).mono ?_; rintro e w1 ⟨rfl, hb1⟩; have HX1 := hid (Box.below (Box.made w 35 [.int .i64 0, .int .i64 0, .bool false, .int .i64 0, .int .i64 0]) hb1 (by simp)); obtain ⟨k0, k1, k2, k3, k4⟩ := HX1.out.five; obtain ⟨f0, f1, f2, f3, f4⟩ := HX1.out.ice5; have hz1 := hb1.size; simp at hz1; have hlt1 := HX1.out.lt; have HB1 := hid (Below.trans (show Below w.heap.size w _ by (repeat (first | exact Below.refl _ _ | exact below_drewN _ | refine Below.drew ?_ | refine Below.alloc ?_ (by simp) _ | refine Below.setCell ?_ (by simp) _ | refine below_drewN' ?_ _))) (hb1.mono (by simp))); clear hb1)
    refine bodyPost_ret (results_hd2 rfl rfl ((HX1.out.store5 (.int .i64 0) (.int .i64 0) (.bool false) (.int .i64 0) (.int .i64 0)).alloc _)) rfl ⟨by rw [hor.out]; rfl, (below_store5 HB1.out (Nat.le_refl _)).alloc (by simp [World.setCell]; omega) _⟩

end Go.Proofs.Ytgjjncoelbhpeaa
