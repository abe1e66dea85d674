/- Contracts of package sets' Sort and of the library's copy of a byte string (bytes.Clone): the rows in order, each in new memory of its own. -/
import Derived.Test.YtgdbjbkmkdkhhaaPlace4
import Derived.Test.YtgdbjbkmkdkhhaaGrid3
import Derived.Lib.SliceRun
namespace Go.Proofs.Ytgdbjbkmkdkhhaa
open Go.RowKit

theorem bytesClone (v : Value) (xs : List Int) (w : World) (h : Sl .u8 w v xs) (hl : xs.length ≤ 1000000) :
    Calls Try.prog 22 #[v] w fun e w' => ∃ v', e = .returned v' ∧ Own .u8 5 w.heap.size w' v' xs ∧ Below w.heap.size w w' := by
  have H := hid h
  obtain ⟨a, cap, rfl, h1, h2, h3⟩ := h
  have q22 : ∀ (w : World) (a : Option Addr) (n c n' c' : Nat), (binOp .eql 23 (.slice a n c) (.slice none n' c')).run Try.prog w = .ok (.bool a.isNone) w := fun w a n c n' c' => Lib.run_eql_slice_nil w _ _ a n c n' c' Try.underlying23
  cases a with
  | none =>
    have hx : xs = [] := by
      rcases h3 with h3 | ⟨b, off, h4, -⟩
      · exact List.eq_nil_of_length_eq_zero (by omega)
      · cases h4
    subst hx
    clear h1 h2 h3
    go_enter Try.func22, Try.ntmps22
    go_wp2
    go_ret
    exact ⟨_, rfl, Own.nil _ _ _ _, Below.refl _ _⟩
  | some ad =>
    clear h1 h2 h3
    go_enter Try.func22, Try.ntmps22
    go_wp2_with (at_builtin; refine wpList_app _ rfl _ _ 23 rfl .u8 w.heap.size 5 1 Try.underlying23 Try.infoU8 _ [] xs rfl (lit_own rfl (Nat.le_refl _) rfl rfl (by simp)) _ rfl (H.out.below (by (repeat (first | exact Below.refl _ _ | exact below_drewN _ | refine Below.drew ?_ | refine Below.alloc ?_ (by simp) _ | refine Below.setCell ?_ (by simp) _ | refine below_drewN' ?_ _)))) (by unfold maxLen; simp; omega) (by simp; omega) (by simp) ?_; intro v' w' ho hg hb hn; have HO := hid ho; have HB := hid (Below.trans (show Below w.heap.size w _ from by (repeat (first | exact Below.refl _ _ | exact below_drewN _ | refine Below.drew ?_ | refine Below.alloc ?_ (by first | omega | (simp; done) | (simp; omega)) _ | refine Below.setCell ?_ (by first | (simp; done) | (simp; omega)) _ | refine below_drewN' ?_ _))) hb); clear ho hg hb hn)
    go_ret
    exact ⟨_, rfl, HO.out, HB.out⟩

theorem rowsAt_take {l : List (List Int)} {p : List Nat} {k : Nat} (h : k < p.length) : rowsAt l (p.take (k + 1)) = rowsAt l (p.take k) ++ [rowAt l (p.getD k 0)] := by
  rw [List.take_add_one, List.getD_eq_getElem?_getD, List.getElem?_eq_getElem h]
  unfold rowsAt
  rw [List.map_append]
  rfl

set_option maxHeartbeats 1000000 in
set_option maxRecDepth 100000 in
theorem setsSort (v : Value) (l : List (List Int)) (w : World) (h : Rws w v l) (hu : RU l) (hl : l.length ≤ 100000) (hx : ∀ x ∈ l, x.length ≤ 1000000) :
    Calls Try.prog 9 #[v] w fun e w' => ∃ v' p, e = .returned v' ∧ IsPl l l.length p ∧ OwnRowsD 23 5 w.heap.size w' v' (rowsAt l p) ∧ Below w.heap.size w w' := by
  have H := hid h
  have HU := hid hu
  have HX := hid hx
  obtain ⟨vs1, l1, ⟨a1, cap1, rfl, q1, m1, c1⟩, r1⟩ := h
  rw [l1] at H q1 c1 ⊢
  obtain ⟨n, hn⟩ : ∃ n, n = l.length := ⟨_, rfl⟩
  rw [← hn] at H hl q1 c1 r1 ⊢
  have HN := hid hn
  have C1 := hid c1
  have R1 := hid r1
  obtain ⟨i0, hi, hz0, hz1, hz2⟩ := info_parts Try.infoRow
  clear hn hu l1 hx c1 r1 m1 q1
  go_enter Try.func9, Try.ntmps9
  go_wp2_with (first
    | (at_make; refine wpList_make_own _ rfl _ _ 22 rfl w.heap.size 23 i0 (.slice none 0 0) 1 Try.underlying22 hi hz0 hz1 _ _ _ n rfl rfl rfl (by rw [hz2]; omega) (by unfold maxLen; omega) (by omega) ?_; intro w2 ho2 hg2; have HO2 := hid ho2; have HB2 := hid ((Below.refl w.heap.size w).grown hg2 (Nat.le_refl _) (fun _ h => by cases h)); clear ho2 hg2)
    | (go_at_call 10; refine (setsPlace _ l w2 (H.out.below HB2.out) HU.out (by rw [← HN.out]; omega)).mono ?_; rintro e w3 ⟨v3, p, rfl, hp3, ho3, hb3⟩; have HP3 := hid hp3; have HO3 := hid ho3; have HB3 := hid hb3; clear hp3 ho3 hb3; obtain ⟨a3, c3, hv3⟩ := HO3.out.sl.form; rw [castL_len, HP3.out.len, ← HN.out] at hv3; subst hv3))
  have HB4 := hid (HB2.out.trans (HB3.out.mono HB2.out.size))
  have HO4 := hid (ownsRow_below HO2.out HB3.out)
  have HZ := hid (show w.heap.size ≤ w3.heap.size from HB4.out.size)
  have HP4 := hid (HO3.out.mono HB2.out.size)
  clear HO2 HB2 HB3 HO3
  go_loopw [3, 12] (fun ov iv wr => ∃ k : Nat, k ≤ n ∧ iv = .int .i64 k ∧ Hid (OwnRowsD 23 5 w.heap.size wr ov (rowsAt l (p.take k))) ∧ Hid (Own .i64 3 w.heap.size wr (.slice a3 n c3) (castL p)) ∧ Hid (Below w.heap.size w wr) ∧ w.heap.size ≤ wr.heap.size) (fun _ iv _ => n - (intOf iv).toNat)
  case atStart => exact ⟨0, by omega, rfl, ⟨[], rfl, HO4.out, fun i hi => by simp [rowsAt] at hi, fun i j _ hj => by simp at hj⟩, HP4.out, HB4.out, HZ.out⟩
  case round =>
    obtain ⟨k, hk, rfl, hrows, hpl, hbel, hsz⟩ := hrel
    by_cases hlt : k < n
    · have hpn : p.length = n := by rw [HP3.out.len, HN.out]
      have hqn : p.getD k 0 < n := by have := place_mem HP3.out (i := k) (by omega); rw [← HN.out] at this; exact this
      obtain ⟨a', cap', he, -, -, hcase⟩ := hpl.out.sl
      injection he with he1 he2 he3
      subst he1 he3
      clear he2
      rcases hcase with hc0 | ⟨b3, o3, rfl, -, c3'⟩
      · have := hpl.out.2
        rcases this with ⟨hn0, _⟩ | ⟨g, cap, cur, hv, _, _, hnc, _⟩
        · injection hn0 with _ hn0 _
          omega
        · injection hv with _ _ hv3
          rw [castL_len] at hnc
          omega
      have d3 := c3' k (by rw [castL_len]; omega)
      rw [castL_getD] at d3
      rcases C1.out with hc0 | ⟨b1, o1, rfl, hb1, c1⟩
      · have hcc := H.out
        obtain ⟨vs, lx, ⟨ax, cx, hvx, hlx, _⟩, _⟩ := hcc
        injection hvx with hv1 hv2 hv3
        have := HN.out
        omega
      have hb1' := hb1 (by omega)
      have HT := hid (rowsAt_take (l := l) (p := p) (k := k) (by omega))
      have HLT := hid (show (rowsAt l (p.take k)).length = k by simp [rowsAt]; omega)
      obtain ⟨q, hq⟩ : ∃ q, q = p.getD k 0 := ⟨_, rfl⟩
      rw [← hq] at d3 hqn HT
      have d1 := (hbel.out.cell (p := ⟨b1, o1 + q, none⟩) hb1').trans (c1 q hqn)
      have e1 := hid ((R1.out q hqn).below hbel.out)
      have hxl : (rowAt l q).length ≤ 1000000 := by
        have hql : q < l.length := by have := HN.out; omega
        have : rowAt l q ∈ l := by
          show l.getD q [] ∈ l
          rw [List.getD_eq_getElem?_getD, List.getElem?_eq_getElem hql]
          exact List.getElem_mem hql
        exact HX.out _ this
      have HRQ : Hid (l.getD q [] = rowAt l q) := rfl
      rw [HRQ.out] at e1
      generalize vs1.getD q undef = u1 at d1 e1
      obtain ⟨X, hX⟩ : ∃ X, X = rowAt l q := ⟨_, rfl⟩
      rw [← hX] at e1 hxl HT
      obtain ⟨acc, hacc⟩ : ∃ acc, acc = rowsAt l (p.take k) := ⟨_, rfl⟩
      rw [← hacc] at hrows HT HLT
      clear hX hacc hq HRQ c1 c3' hb1 hpn C1 R1
      go_wp2_with (first
        | (go_at_call 22; refine (bytesClone u1 X wr e1.out hxl).mono ?_; rintro e w4 ⟨v4, rfl, ho4, hb4⟩; have HO4 := hid ho4; have HB4 := hid hb4; have hz4 := hb4.size; clear ho4 hb4; obtain ⟨a4, c4, hv4⟩ := HO4.out.sl.form; generalize X.length = n4 at hv4; subst hv4)
        | (at_builtin; refine wpList_appRowE _ rfl _ _ 22 rfl w.heap.size 23 5 (by decide) 24 Try.underlying22 Try.infoRow wr (HB4.out.trans (by (repeat (first | exact Below.refl _ _ | exact below_drewN _ | refine Below.drew ?_ | refine Below.alloc ?_ (by first | omega | (simp; done) | (simp; omega)) _ | refine Below.setCell ?_ (by first | (simp; done) | (simp; omega)) _ | refine below_drewN' ?_ _)))) _ acc rfl hrows.out w4.heap.size (.slice a4 n4 c4) X rfl (by rw [cell_of_row _ w4.heap.size 0 #[.slice a4 n4 c4] 23 (0, 0) (heap_alloc_new w4 _)]; rfl) (HO4.out.alloc _) (by unfold maxLen; have := HLT.out; omega) (by have := HLT.out; omega) hsz ?_; intro v6 w6 hr6 hb6 hx6; have HR6 := hid hr6; have HB6 := hid (hbel.out.trans ((HB4.out.mono hsz).trans (Below.trans (by (repeat (first | exact Below.refl _ _ | exact below_drewN _ | refine Below.drew ?_ | refine Below.alloc ?_ (by first | omega | (simp; done) | (simp; omega)) _ | refine Below.setCell ?_ (by first | (simp; done) | (simp; omega)) _ | refine below_drewN' ?_ _))) hb6))); have HX6 := hid (hx6 .i64 3 _ _ (by decide) ((hpl.out.below HB4.out).alloc _)); have hz6 := hb6.size; clear hr6 hb6 hx6; simp at hz6))
      go_roundw
      case rel => exact ⟨k + 1, by omega, by go_num, by rw [HT.out]; exact HR6.out, HX6.out, HB6.out, by omega⟩
      case measure => simp [intOf]; omega
    · obtain rfl : k = n := by omega
      go_wp2_with (fail)
      go_ret
      exact ⟨_, p, rfl, by have := HP3.out; rwa [← HN.out] at this, by have := hrows.out; rwa [List.take_of_length_le (by rw [HP3.out.len, HN.out]; omega)] at this, hbel.out⟩
end Go.Proofs.Ytgdbjbkmkdkhhaa
