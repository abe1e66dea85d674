/- Contract of package ranges' add: one number more among the longest runs. -/
import Derived.Test.YtlngnmcflooccaaRngUnp
import Derived.Test.YtlngnmcflooccaaOwnG
import Derived.BigQuiet
namespace Go.Proofs.Ytlngnmcflooccaa
open Go.RowKit

theorem rle_zero {g : Nat → Int} {c : Nat} (hz : g c = 0) : rle g (c + 1) = rle g c := by rw [rle, rleStep, if_pos hz]
theorem rle_ext {g : Nat → Int} {c : Nat} {l : List Rg} (h : l = rle g c) (hz : g c ≠ 0) (hl : 0 < l.length) (ht : (l.getD (l.length - 1) noRg).t = (c : Int) - 1) (hv : (l.getD (l.length - 1) noRg).v = g c) :
    rle g (c + 1) = l.set (l.length - 1) ⟨(l.getD (l.length - 1) noRg).f, c, (l.getD (l.length - 1) noRg).v⟩ := by
  have hs := snoc_rg hl
  rw [rle, ← h]
  generalize l.getD (l.length - 1) noRg = r at hs ht hv ⊢
  generalize hd : l.take (l.length - 1) = d at hs
  have hdl : d.length = l.length - 1 := by rw [← hd, List.length_take]; omega
  unfold rleStep
  rw [if_neg hz]
  have hlast : l.getLast? = some r := by rw [hs]; simp
  rw [hlast]
  simp only
  rw [if_pos ⟨ht, hv⟩, ← hv, ← hdl]
  conv => rhs; rw [hs]
  rw [hs]
  simp
theorem rle_app {g : Nat → Int} {c : Nat} {l : List Rg} (h : l = rle g c) (hz : g c ≠ 0) (hn : ¬ (0 < l.length ∧ (l.getD (l.length - 1) noRg).t = (c : Int) - 1 ∧ (l.getD (l.length - 1) noRg).v = g c)) :
    rle g (c + 1) = l ++ [⟨c, c, g c⟩] := by
  rw [rle, ← h]
  unfold rleStep
  rw [if_neg hz]
  rcases Nat.eq_zero_or_pos l.length with h0 | h0
  · rw [List.eq_nil_of_length_eq_zero h0]; rfl
  · have hs := snoc_rg h0
    have hlast : l.getLast? = some (l.getD (l.length - 1) noRg) := by
      conv => lhs; rw [hs]
      simp
    rw [hlast]
    simp only
    rw [if_neg (fun hx => hn ⟨h0, hx⟩)]
theorem rle_le (g : Nat → Int) : ∀ c, (rle g c).length ≤ c
  | 0 => Nat.le_refl _
  | c + 1 => by
    have := rle_le g c
    have hl := (rle g c).length
    by_cases hz : g c = 0
    · rw [rle_zero hz]; omega
    · by_cases hx : 0 < (rle g c).length ∧ ((rle g c).getD ((rle g c).length - 1) noRg).t = (c : Int) - 1 ∧ ((rle g c).getD ((rle g c).length - 1) noRg).v = g c
      · rw [rle_ext rfl hz hx.1 hx.2.1 hx.2.2, List.length_set]; omega
      · rw [rle_app rfl hz hx, List.length_append, List.length_cons, List.length_nil]; omega

theorem Try.infoRun : (Try.prog.info? 62).map (fun i => (i.zero, i.size, i.bytes)) = some (some (.agg #[.int .i64 0, .int .i64 0, .int .i64 0]), 3, 24) := by kernel_rfl
theorem box_far9 {t : TypeId} {cs : List Value} {B B' j : Nat} {w : World} {v : Value} (h : Box t cs B w) (hn : B ≠ B') : Box t cs B (w.setCell ⟨B', j, none⟩ v) := by
  have e : (w.setCell ⟨B', j, none⟩ v).heap[B]? = w.heap[B]? := Below.heap_setCell _ _ _ _ (fun h => hn (by rw [h]))
  exact e.trans h

theorem OwnG.far {e base : Nat} {w : World} {v : Value} {l : List Rg} (h : OwnG e base w v l) {B : Nat} (hB : B < base) (j : Nat) (u : Value) : OwnG e base (w.setCell ⟨B, j, none⟩ u) v l := by
  obtain ⟨h1, h2⟩ := h
  refine ⟨h1, ?_⟩
  rcases h2 with h2 | ⟨g, cap, cur, hv, hg, hh, r⟩
  · exact .inl h2
  · refine .inr ⟨g, cap, cur, hv, hg, ?_, r⟩
    rw [Below.heap_setCell _ _ _ _ (fun e => by simp only at e; omega)]
    exact hh
/-- what add leaves: the list behind the pointer -/
def AddTold (B base : Nat) (l : List Rg) (w w' : World) : Prop := ∃ lv, Box 59 [lv] B w' ∧ OwnG 62 base w' lv l ∧ Below B w w'

/-- the list has grown, and is stored -/
theorem add_stored {B base : Nat} {l : List Rg} {w w6 : World} {lv lv' : Value} (hbx : Box 59 [lv] B w) (hb : Below base w w6) (hB : B < base) (ho : OwnG 62 base w6 lv' l) : AddTold B base l w (w6.setCell ⟨B, 0, none⟩ lv') :=
  ⟨lv', (hbx.below hb hB).set 0 lv', ho.far hB 0 lv', (Below.mono hb (show B ≤ base by omega)).setCell (Nat.le_refl _) _⟩

set_option maxHeartbeats 2000000 in
theorem rngAdd (B base : Nat) (l : List Rg) (c : Nat) (y : Int) (lv : Value) (g : Nat → Int) (w : World) (hbx : Box 59 [lv] B w) (hown : OwnG 62 base w lv l) (hB : B < base) (hbs : base ≤ w.heap.size) (hl : l = rle g c) (hy : y = g c) (hc : c ≤ 1114111) :
    Calls Try.prog 25 #[.pointer (some ⟨B, 0, none⟩), .int .i64 c, .int .i64 y] w fun e w' => e = .returned (.tuple #[]) ∧ AddTold B base (rle g (c + 1)) w w' := by
  obtain ⟨i0, hi0, hz0, hz1, hz2⟩ := info_parts Try.infoRun
  have hlen : l.length ≤ c := by rw [hl]; exact rle_le g c
  have HBX := hid hbx
  have x0 := hbx.cell 0
  have f0 := hbx.ice 0
  simp only [List.getElem?_cons_zero] at x0
  by_cases hz : y = 0
  · have hr := hid (rle_zero (g := g) (c := c) (by rw [← hy]; exact hz))
    have hyb : (y == 0) = true := by rw [hz]; rfl
    have HL := hid hl
    clear hz hl
    go_enter Try.func25, Try.ntmps25
    go_wp2_with (fail)
    (try simp only [Exit.inBlock, Exit.then]); refine bodyPost_ret (results_none rfl _ _ _) rfl ?_
    exact ⟨rfl, lv, hbx, by rw [hr.out, ← HL.out]; exact hown, Below.refl _ _⟩
  · have hyb : (y == 0) = false := by simpa using hz
    have hyn : g c ≠ 0 := by rw [← hy]; exact hz
    obtain ⟨al, cl, hlv⟩ := hown.form
    obtain ⟨m, hm⟩ : ∃ m, m = l.length := ⟨_, rfl⟩
    rw [← hm] at hlv
    subst hlv
    have HM := hid hm
    have hmc : m ≤ 1114111 := by omega
    have HY := hid hy
    have HOWN := hid hown
    have HL := hid hl
    have HYN := hid hyn
    have HC := hid hc
    clear hz hm hy hown hl hyn hlen
    rcases Nat.eq_zero_or_pos m with hm0 | hm0
    · have hr := hid (rle_app HL.out HYN.out (fun h => by have := HM.out; have := h.1; omega))
      have hml : (m : Int) ≤ 0 := by omega
      clear hm0
      go_enter Try.func25, Try.ntmps25
      go_wp2_with (at_builtin; go_loud (refine wpList_appG _ rfl _ _ 59 rfl base 62 24 i0 (.agg #[.int .i64 0, .int .i64 0, .int .i64 0]) Try.underlying59 hi0 hz0 hz1 hz2 rfl _ l rfl (HOWN.out.below (by (repeat (first | exact Below.refl _ _ | exact below_drewN _ | refine Below.drew ?_ | refine Below.alloc ?_ (by first | omega | (simp; done) | (simp; omega)) _ | refine Below.setCell ?_ (by first | (simp; done) | (simp; omega)) _ | refine below_drewN' ?_ _)))) w.heap.size ⟨(c : Int), (c : Int), y⟩ rfl ⟨by rw [cell_of_row _ w.heap.size 0 _ 62 (0, 0) (heap_alloc_new w _)]; rfl, by rw [cell_of_row _ w.heap.size 1 _ 62 (0, 0) (heap_alloc_new w _)]; rfl, by rw [cell_of_row _ w.heap.size 2 _ 62 (0, 0) (heap_alloc_new w _)]; rfl⟩ (by have := HM.out; unfold maxLen; omega) (by have := HM.out; omega) (by simp; omega) ?_); intro g6 c6 w6 ho6 hb6; rw [← HM.out] at ho6 ⊢; have HO6 := hid ho6; have HB6 := hid (Below.trans (show Below base w _ from by (repeat (first | exact Below.refl _ _ | exact below_drewN _ | refine Below.drew ?_ | refine Below.alloc ?_ (by first | omega | (simp; done) | (simp; omega)) _ | refine Below.setCell ?_ (by first | (simp; done) | (simp; omega)) _ | refine below_drewN' ?_ _))) hb6); have hb9 := HBX.out.below HB6.out hB; have y0 := hb9.cell 0; have f9 := hb9.ice 0; simp only [List.getElem?_cons_zero] at y0; clear ho6 hb6 hb9)
      go_end0
      exact ⟨rfl, by rw [hr.out, ← HY.out]; exact add_stored HBX.out HB6.out hB HO6.out⟩
    · obtain ⟨p1, hp1⟩ : ∃ p1, p1 + 1 = m := ⟨m - 1, by omega⟩
      obtain ⟨g9, cap9, hg9, hgb, hglt, t1, t2, tf, tset⟩ := HOWN.out.open_ (show p1 < l.length by have := HM.out; omega)
      injection hg9 with hg9 hg9m hg9c
      clear hg9m
      subst hg9 hg9c
      have hidx : l.length - 1 = p1 := by have := HM.out; omega
      have hext := fun h1 h2 h3 => rle_ext HL.out HYN.out h1 h2 h3
      have happ := fun h => rle_app HL.out HYN.out h
      rw [hidx] at hext happ
      obtain ⟨rr, hrr⟩ : ∃ rr, rr = l.getD p1 noRg := ⟨_, rfl⟩
      rw [← hrr] at t1 t2 tset hext happ
      obtain ⟨rf, rt, rv⟩ := rr
      dsimp only at t1 t2 tset hext happ
      have HEXT := hid hext
      have HAPQ := hid happ
      have HTS := hid (tset c)
      have hl0 : Hid (0 < l.length) := hid (by have := HM.out; omega)
      clear hext happ tset hrr hidx
      have wp1 : (m : Int) - 1 = (p1 : Int) := by omega
      have hp1m : p1 < m := by omega
      clear hp1 hm0
      obtain ⟨cm, hcm⟩ : ∃ cm : Int, cm = (c : Int) - 1 := ⟨_, rfl⟩
      have wcm : (c : Int) - 1 = cm := hcm.symm
      have HCM := hid hcm
      clear hcm
      by_cases ht : rt = cm
      · by_cases hv : rv = y
        · have hr := hid (HEXT.out hl0.out (by rw [ht, HCM.out]) (by rw [hv, HY.out]))
          have htb : (rt == cm) = true := by rw [ht]; simp
          have hvb : (rv == y) = true := by rw [hv]; simp
          clear ht hv
          go_enter Try.func25, Try.ntmps25
          go_wp2_with (fail)
          (try simp only [Exit.inBlock, Exit.then]); refine bodyPost_ret (results_none rfl _ _ _) rfl ?_
          exact ⟨rfl, _, box_far9 HBX.out (by omega), by rw [hr.out]; exact HTS.out, (Below.refl _ _).setCell (by show B ≤ g9; omega) _⟩
        · have hr := hid (HAPQ.out (fun h => hv (by rw [HY.out]; exact h.2.2)))
          have htb : (rt == cm) = true := by rw [ht]; simp
          have hvb : (rv == y) = false := by simpa using hv
          clear ht hv
          go_enter Try.func25, Try.ntmps25
          go_wp2_with (at_builtin; go_loud (refine wpList_appG _ rfl _ _ 59 rfl base 62 24 i0 (.agg #[.int .i64 0, .int .i64 0, .int .i64 0]) Try.underlying59 hi0 hz0 hz1 hz2 rfl _ l rfl (HOWN.out.below (by (repeat (first | exact Below.refl _ _ | exact below_drewN _ | refine Below.drew ?_ | refine Below.alloc ?_ (by first | omega | (simp; done) | (simp; omega)) _ | refine Below.setCell ?_ (by first | (simp; done) | (simp; omega)) _ | refine below_drewN' ?_ _)))) w.heap.size ⟨(c : Int), (c : Int), y⟩ rfl ⟨by rw [cell_of_row _ w.heap.size 0 _ 62 (0, 0) (heap_alloc_new w _)]; rfl, by rw [cell_of_row _ w.heap.size 1 _ 62 (0, 0) (heap_alloc_new w _)]; rfl, by rw [cell_of_row _ w.heap.size 2 _ 62 (0, 0) (heap_alloc_new w _)]; rfl⟩ (by have := HM.out; unfold maxLen; omega) (by have := HM.out; omega) (by simp; omega) ?_); intro g6 c6 w6 ho6 hb6; rw [← HM.out] at ho6 ⊢; have HO6 := hid ho6; have HB6 := hid (Below.trans (show Below base w _ from by (repeat (first | exact Below.refl _ _ | exact below_drewN _ | refine Below.drew ?_ | refine Below.alloc ?_ (by first | omega | (simp; done) | (simp; omega)) _ | refine Below.setCell ?_ (by first | (simp; done) | (simp; omega)) _ | refine below_drewN' ?_ _))) hb6); have hb9 := HBX.out.below HB6.out hB; have y0 := hb9.cell 0; have f9 := hb9.ice 0; simp only [List.getElem?_cons_zero] at y0; clear ho6 hb6 hb9)
          go_end0
          exact ⟨rfl, by rw [hr.out, ← HY.out]; exact add_stored HBX.out HB6.out hB HO6.out⟩
      · have hr := hid (HAPQ.out (fun h => ht (by rw [HCM.out]; exact h.2.1)))
        have htb : (rt == cm) = false := by simpa using ht
        clear ht
        go_enter Try.func25, Try.ntmps25
        go_wp2_with (at_builtin; go_loud (refine wpList_appG _ rfl _ _ 59 rfl base 62 24 i0 (.agg #[.int .i64 0, .int .i64 0, .int .i64 0]) Try.underlying59 hi0 hz0 hz1 hz2 rfl _ l rfl (HOWN.out.below (by (repeat (first | exact Below.refl _ _ | exact below_drewN _ | refine Below.drew ?_ | refine Below.alloc ?_ (by first | omega | (simp; done) | (simp; omega)) _ | refine Below.setCell ?_ (by first | (simp; done) | (simp; omega)) _ | refine below_drewN' ?_ _)))) w.heap.size ⟨(c : Int), (c : Int), y⟩ rfl ⟨by rw [cell_of_row _ w.heap.size 0 _ 62 (0, 0) (heap_alloc_new w _)]; rfl, by rw [cell_of_row _ w.heap.size 1 _ 62 (0, 0) (heap_alloc_new w _)]; rfl, by rw [cell_of_row _ w.heap.size 2 _ 62 (0, 0) (heap_alloc_new w _)]; rfl⟩ (by have := HM.out; unfold maxLen; omega) (by have := HM.out; omega) (by simp; omega) ?_); intro g6 c6 w6 ho6 hb6; rw [← HM.out] at ho6 ⊢; have HO6 := hid ho6; have HB6 := hid (Below.trans (show Below base w _ from by (repeat (first | exact Below.refl _ _ | exact below_drewN _ | refine Below.drew ?_ | refine Below.alloc ?_ (by first | omega | (simp; done) | (simp; omega)) _ | refine Below.setCell ?_ (by first | (simp; done) | (simp; omega)) _ | refine below_drewN' ?_ _))) hb6); have hb9 := HBX.out.below HB6.out hB; have y0 := hb9.cell 0; have f9 := hb9.ice 0; simp only [List.getElem?_cons_zero] at y0; clear ho6 hb6 hb9)
        go_end0
        exact ⟨rfl, by rw [hr.out, ← HY.out]; exact add_stored HBX.out HB6.out hB HO6.out⟩
end Go.Proofs.Ytlngnmcflooccaa
