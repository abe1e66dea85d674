/- Values that are well formed, wrapped, are well formed, as deep as the deepest and one; their parts are they: the walk of the statement. For every input. -/
import Derived.Test.YtgjjncoelbhpeaaLawForms
import Derived.Test.YtgjjncoelbhpeaaGrid2
namespace Go.Proofs.Ytgjjncoelbhpeaa
open Go.RowKit

def okL (xss : List (List Int)) : Bool := xss.all fun xs => decide ((wellS xs).e = 0)
def maxD (xss : List (List Int)) : Nat := xss.foldl (fun m xs => max m (wellS xs).deep) 0

theorem okL_add (xss : List (List Int)) (x : List Int) : okL (xss ++ [x]) = (okL xss && decide ((wellS x).e = 0)) := by simp [okL]
theorem maxD_add (xss : List (List Int)) (x : List Int) : maxD (xss ++ [x]) = max (maxD xss) (wellS x).deep := by simp [maxD]
theorem take_add {xss : List (List Int)} {k : Nat} (h : k < xss.length) : xss.take (k + 1) = xss.take k ++ [xss.getD k []] := by
  rw [List.take_add_one, List.getD_eq_getElem?_getD, List.getElem?_eq_getElem h]; rfl
theorem fold_from (xss : List (List Int)) : ∀ m : Nat, xss.foldl (fun m xs => max m (wellS xs).deep) m = max m (maxD xss) := by
  unfold maxD
  induction xss with
  | nil => intro m; simp
  | cons x t ih => intro m; simp only [List.foldl_cons]; rw [ih, ih (max 0 _)]; omega
theorem maxD_cons (x : List Int) (t : List (List Int)) : maxD (x :: t) = max (wellS x).deep (maxD t) := by
  show (x :: t).foldl _ 0 = _
  rw [List.foldl_cons, fold_from]; omega

theorem u8_flat {xss : List (List Int)} (h : ∀ xs ∈ xss, U8 xs) : U8 xss.flatten := fun y hy => by
  obtain ⟨xs, h1, h2⟩ := List.mem_flatten.1 hy
  exact h xs h1 y h2

theorem parts_of : ∀ (xss : List (List Int)), (∀ xs ∈ xss, U8 xs) → okL xss = true → maxD xss < 32 → listW (valW 31) xss.flatten = ⟨0, xss.flatten.length, maxD xss⟩ ∧ partsS xss.flatten = xss
  | [], _, _, _ => by
    rw [List.flatten_nil, listW_nil, partsS_nil]
    exact ⟨rfl, rfl⟩
  | x :: t, hu, ho, hd => by
    have hx : (wellS x).e = 0 := by simp [okL] at ho; exact ho.1
    have ht : okL t = true := by simp [okL] at ho ⊢; exact ho.2
    rw [maxD_cons] at hd ⊢
    have hux := hu x (List.mem_cons_self ..)
    have hut : ∀ xs ∈ t, U8 xs := fun xs h => hu xs (List.mem_cons_of_mem _ h)
    obtain ⟨i1, i2⟩ := parts_of t hut ht (by omega)
    obtain ⟨E, P, D, hW⟩ : ∃ E P D, wellS x = ⟨E, P, D⟩ := ⟨_, _, _, rfl⟩
    rw [hW] at hx hd ⊢
    dsimp only at hx hd
    subst hx
    obtain ⟨a1, a2, a3, a4, a5, _⟩ := wellS_ok hux hW
    have hdn := valW_dn 31 x hux a1 (show (valW 32 x).deep ≤ 31 by omega)
    have hb := (valW_bd 32 x hux).2 a1
    have hdp : (valW 31 x).deep = D := by rw [hdn]; exact a5
    constructor
    · rw [List.flatten_cons, listW_app hux (u8_flat hut) (by rw [hdn]; exact a1) (by rw [hdn]; exact a2), i1, hdp]
      simp [joinW]
    · obtain ⟨b1, b2, b3, b4, b5⟩ := headE_app hux a4 t.flatten
      have hne : x ++ t.flatten ≠ [] := by
        intro h
        have := congrArg List.length h
        simp at this
        rw [this.1] at a2 hb
        simp at a2
        omega
      rw [List.flatten_cons, partsS_on hne (by rw [b4]; omega), b4, a3, List.take_left, List.drop_left, i2]

theorem parts_wrap {xss : List (List Int)} (hu : ∀ xs ∈ xss, U8 xs) (ho : okL xss = true) (hd : maxD xss < 32) {t : Int} (ht : t = 16 ∨ t = 17) (hok : HdOk ⟨0, t, true, xss.flatten.length, 0⟩) :
    wellS (wrapL 0 t true xss.flatten) = ⟨0, 0, maxD xss + 1⟩ ∧ partsS (bodyS (wrapL 0 t true xss.flatten)) = xss := by
  obtain ⟨i1, i2⟩ := parts_of xss hu ho hd
  have hh : headE (wrapL 0 t true xss.flatten) = 0 := by
    rw [wrap_head hok]
    rcases ht with rfl | rfl <;> rfl
  have h1 := wrap_in hok hh 31
  rw [i1, if_neg (by simp)] at h1
  exact ⟨wellS_of h1 rfl, by rw [wrap_body hok]; exact i2⟩

theorem len_take_flat {xss : List (List Int)} : ∀ k, k ≤ xss.length → (∀ j, j < k → (xss.getD j []).length ≤ 60) → (xss.take k).flatten.length ≤ 60 * k
  | 0, _, _ => by simp
  | k + 1, hk, h => by
    rw [take_add (by omega), List.flatten_append, List.length_append]
    have := len_take_flat k (by omega) (fun j hj => h j (by omega))
    have := h k (by omega)
    rw [show ([xss.getD k []] : List (List Int)).flatten = xss.getD k [] by simp]
    omega

set_option maxRecDepth 20000 in
set_option maxHeartbeats 2000000 in
theorem walkParts (v : Value) (xss : List (List Int)) (set : Bool) (w : World) (h : Rws w v xss) (hu : ∀ xs ∈ xss, U8 xs) :
    Calls Try.prog 4 #[v, .bool set] w fun e w' => e = .returned (.bool true) ∧ Below w.heap.size w w' := by
  have HRW := hid h
  obtain ⟨vs, l1, s1, r1⟩ := h
  obtain ⟨a1, cap1, rfl, q1, m1, h1⟩ := s1
  rw [l1] at q1 h1 HRW ⊢
  have m2 : xss.length ≤ 9223372036854775807 := by unfold maxLen at m1; omega
  by_cases hlen : 20 < xss.length
  · go_enter Try.func4, Try.ntmps4
    go_wp2
    go_ret
    exact ⟨rfl, Below.refl _ _⟩
  have HC1 := hid h1
  have HR1 := hid r1
  have HU := hid hu
  clear h1 r1 m1 m2 l1 hu
  obtain ⟨len, hle⟩ : ∃ len, len = xss.length := ⟨_, rfl⟩
  rw [← hle] at hlen HC1 HR1 HRW q1 ⊢
  have HLE := hid hle
  clear hle
  go_enter Try.func4, Try.ntmps4
  go_wp2
  go_loopw [5, 6, 7, 8] (fun c d o i wr => ∃ (k D : Nat) (O : Bool) (CT : List Int), k ≤ len ∧ i = .int .i64 k ∧ d = .int .i64 D ∧ o = .bool O ∧ D ≤ 32 ∧ CT.length ≤ 60 * k ∧ Hid (CT = (xss.take k).flatten) ∧ Hid (D = maxD (xss.take k)) ∧ Hid (O = okL (xss.take k)) ∧ Hid (Own .u8 5 w.heap.size wr c CT) ∧ Hid (Below w.heap.size w wr)) (fun _ _ _ i _ => len - (intOf i).toNat)
  case atStart => exact ⟨0, 0, true, [], Nat.zero_le _, rfl, rfl, rfl, by omega, by simp, by show _ = _; simp, by show _ = _; simp [maxD], by show _ = _; simp [okL], Own.nil _ _ _ _, Below.refl _ _⟩
  case round =>
    obtain ⟨k, D, O, CT, hk, rfl, rfl, rfl, hD, hct, hCT, hDD, hOO, hown, hbl⟩ := hrel
    by_cases hlt : k < len
    · rcases HC1.out with hc | ⟨b, off, rfl, hb, hc⟩
      · omega
      · have hcell := hc k hlt
        have hsl := HR1.out k hlt
        have hblt := hb (by omega)
        clear hc hb
        have hcell2 := (hbl.out.cell (p := ⟨b, off + k, none⟩) hblt).trans hcell
        generalize vs.getD k undef = u at hcell hcell2 hsl
        obtain ⟨X, hX⟩ : ∃ X, X = xss.getD k [] := ⟨_, rfl⟩
        rw [← hX] at hsl
        have hxu : U8 X := HU.out X (by rw [hX, List.getD_eq_getElem?_getD, List.getElem?_eq_getElem (by rw [← HLE.out]; exact hlt)]; exact List.getElem_mem _)
        have hst := take_add (show k < xss.length by rw [← HLE.out]; exact hlt)
        rw [← hX] at hst
        have HSL := hid hsl
        obtain ⟨a3, c3, rfl, q3, m3, -⟩ := hsl
        have hm3 : X.length ≤ 9223372036854775807 := by unfold maxLen at m3; omega
        have HX := hid hX
        have HST := hid hst
        have hcellw := hcell
        clear hcell hX hst m3
        by_cases hX60 : 60 < X.length
        · go_wp2
          go_ret
          exact ⟨rfl, hbl.out⟩
        obtain ⟨E, P, N, hW⟩ : ∃ E P D, wellS X = ⟨E, P, D⟩ := ⟨_, _, _, rfl⟩
        have HW := hid hW
        have hN : N ≤ 32 := by
          unfold wellS at hW
          have hb := (valW_bd 32 X hxu).2
          split at hW
          · injection hW with e1 e2 e3; omega
          · rename_i hh
            split at hW
            · injection hW with e1 e2 e3; omega
            · injection hW with e1 e2 e3
              have := hb (by omega)
              omega
        clear hW
        have HCELL := hid (show w.cell? ⟨b, off + k, none⟩ = _ from hcellw)
        have HD : Hid (max D N = maxD (xss.take (k + 1))) := by show _ = _; rw [HST.out, maxD_add, ← hDD.out, HW.out]
        have HCT : Hid (CT ++ X = (xss.take (k + 1)).flatten) := by show _ = _; rw [HST.out, List.flatten_append, ← hCT.out]; simp
        have HO : Hid ((O && decide (E = 0)) = okL (xss.take (k + 1))) := by show _ = _; rw [HST.out, okL_add, ← hOO.out, HW.out]
        have hzr := hbl.out.size
        clear hDD hCT hOO HST HX
        have goal2 : True := trivial
        rcases (show O = false ∨ (O = true ∧ E = 0) ∨ (O = true ∧ E ≠ 0) by cases O <;> simp; exact Decidable.em _) with rfl | ⟨rfl, rfl⟩ | ⟨rfl, hE⟩
        · skip
          go_wp2_with (first
            | (go_at_call 11; refine (wellCheck _ X _ (HSL.out.below hbl.out) hxu HW.out).mono ?_; rintro e w2 ⟨rfl, hb2⟩; have HB2 := hid (hbl.out.trans (hb2.mono hzr)); have HO2 := hid (hown.out.below hb2); have hcell3 := (HB2.out.cell (p := ⟨b, off + k, none⟩) hblt).trans HCELL.out; clear hb2)
            | (go_at_call 13; refine (wellDepth _ X _ (HSL.out.below HB2.out) hxu HW.out).mono ?_; rintro e w3 ⟨rfl, hb3⟩; have HB3 := hid (HB2.out.trans (hb3.mono HB2.out.size)); have HO3 := hid (HO2.out.below hb3); have hcell4 := (HB3.out.cell (p := ⟨b, off + k, none⟩) hblt).trans HCELL.out; clear hb3)
            | (at_builtin; refine wpList_app _ rfl _ _ 22 rfl .u8 w.heap.size 5 1 Try.underlying22 Try.infoU8 _ CT X rfl HO3.out _ rfl (HSL.out.below HB3.out) (by unfold maxLen; omega) (by omega) HB3.out.size ?_; intro v6 w6 ho6 hg6 hb6 hn6; have HO6 := hid ho6; have HB6 := hid (HB3.out.trans hb6); clear ho6 hb6 hg6 hn6))
          all_goals
            go_roundw
            case rel => exact ⟨k + 1, max D N, false, CT ++ X, by omega, by go_num, by first | rfl | (congr 1; omega) | (congr 1; split <;> omega) | go_num, rfl, by omega, by rw [List.length_append]; omega, HCT, HD, HO, HO6, HB6⟩
            case measure => simp [intOf]; omega
        · skip
          go_wp2_with (first
            | (go_at_call 11; refine (wellCheck _ X _ (HSL.out.below hbl.out) hxu HW.out).mono ?_; rintro e w2 ⟨rfl, hb2⟩; have HB2 := hid (hbl.out.trans (hb2.mono hzr)); have HO2 := hid (hown.out.below hb2); have hcell3 := (HB2.out.cell (p := ⟨b, off + k, none⟩) hblt).trans HCELL.out; clear hb2)
            | (go_at_call 13; refine (wellDepth _ X _ (HSL.out.below HB2.out) hxu HW.out).mono ?_; rintro e w3 ⟨rfl, hb3⟩; have HB3 := hid (HB2.out.trans (hb3.mono HB2.out.size)); have HO3 := hid (HO2.out.below hb3); have hcell4 := (HB3.out.cell (p := ⟨b, off + k, none⟩) hblt).trans HCELL.out; clear hb3)
            | (at_builtin; refine wpList_app _ rfl _ _ 22 rfl .u8 w.heap.size 5 1 Try.underlying22 Try.infoU8 _ CT X rfl HO3.out _ rfl (HSL.out.below HB3.out) (by unfold maxLen; omega) (by omega) HB3.out.size ?_; intro v6 w6 ho6 hg6 hb6 hn6; have HO6 := hid ho6; have HB6 := hid (HB3.out.trans hb6); clear ho6 hb6 hg6 hn6))
          all_goals
            go_roundw
            case rel => exact ⟨k + 1, max D N, true, CT ++ X, by omega, by go_num, by first | rfl | (congr 1; omega) | (congr 1; split <;> omega) | go_num, rfl, by omega, by rw [List.length_append]; omega, HCT, HD, HO, HO6, HB6⟩
            case measure => simp [intOf]; omega
        · have hE2 : (E == 0) = false := by simp [hE]
          have HE2 := hid hE
          clear hE
          go_wp2_with (first
            | (go_at_call 11; refine (wellCheck _ X _ (HSL.out.below hbl.out) hxu HW.out).mono ?_; rintro e w2 ⟨rfl, hb2⟩; have HB2 := hid (hbl.out.trans (hb2.mono hzr)); have HO2 := hid (hown.out.below hb2); have hcell3 := (HB2.out.cell (p := ⟨b, off + k, none⟩) hblt).trans HCELL.out; clear hb2)
            | (go_at_call 13; refine (wellDepth _ X _ (HSL.out.below HB2.out) hxu HW.out).mono ?_; rintro e w3 ⟨rfl, hb3⟩; have HB3 := hid (HB2.out.trans (hb3.mono HB2.out.size)); have HO3 := hid (HO2.out.below hb3); have hcell4 := (HB3.out.cell (p := ⟨b, off + k, none⟩) hblt).trans HCELL.out; clear hb3)
            | (at_builtin; refine wpList_app _ rfl _ _ 22 rfl .u8 w.heap.size 5 1 Try.underlying22 Try.infoU8 _ CT X rfl HO3.out _ rfl (HSL.out.below HB3.out) (by unfold maxLen; omega) (by omega) HB3.out.size ?_; intro v6 w6 ho6 hg6 hb6 hn6; have HO6 := hid ho6; have HB6 := hid (HB3.out.trans hb6); clear ho6 hb6 hg6 hn6))
          all_goals
            go_roundw
            case rel => exact ⟨k + 1, max D N, false, CT ++ X, by omega, by go_num, by first | rfl | (congr 1; omega) | (congr 1; split <;> omega) | go_num, rfl, by omega, by rw [List.length_append]; omega, HCT, HD, (by have := HO.out; show _ = _; rw [← this]; simp [HE2.out]), HO6, HB6⟩
            case measure => simp [intOf]; omega
    · have hkl : k = len := by omega
      have ht : xss.take k = xss := List.take_of_length_le (by rw [← HLE.out]; omega)
      have h1 := hCT.out
      have h2 := hDD.out
      have h3 := hOO.out
      rw [ht] at h1 h2 h3
      subst hkl
      have hct2 : CT.length ≤ 1200 := by omega
      clear hCT hDD hOO ht hlt hct
      cases O
      · clear h1 h2 h3
        go_wp2_with (go_at_call 16; refine (wakesOk _).mono ?_; rintro e w9 ⟨rfl, hb9⟩; have HB9 := hid (hbl.out.trans (hb9.mono hbl.out.size)); clear hb9)
        go_ret
        exact ⟨rfl, HB9.out⟩
      · by_cases hD32 : 32 ≤ D
        · have hD33 : (32 : Int) ≤ (D : Int) := by omega
          clear h1 h2 h3
          go_wp2_with (go_at_call 16; refine (wakesOk _).mono ?_; rintro e w9 ⟨rfl, hb9⟩; have HB9 := hid (hbl.out.trans (hb9.mono hbl.out.size)); clear hb9)
          go_ret
          exact ⟨rfl, HB9.out⟩
        have hD33 : ¬ (32 : Int) ≤ (D : Int) := by omega
        cases set
        · have hok : HdOk ⟨0, 16, true, CT.length, 0⟩ := ⟨⟨by dsimp only; omega, by dsimp only; omega⟩, ⟨by dsimp only; omega, by dsimp only; omega⟩, ⟨by dsimp only; omega, by dsimp only; omega⟩⟩
          have hct : U8 CT := by rw [h1]; exact u8_flat HU.out
          have HUW := hid (wrap_u8 hok hct)
          have HCO := hid (wrap_cons hok)
          have hn := (hdN_bd hok hct).2
          have HLW : Hid ((wrapL 0 16 true CT).length ≤ 1000000000000) := by show _ ≤ _; rw [wrap_len]; omega
          have HOK := hid hok
          rw [h1] at hok
          have hpw := parts_wrap HU.out h3.symm (by omega) (by omega) hok
          rw [← h1, ← h2] at hpw
          obtain ⟨hw1, hw2⟩ := hpw
          have HW := hid hw1
          have HPW := hid hw2
          clear h1 h2 h3 hok hw1 hw2 hn hct
          go_wp2_with (first
            | (go_at_call 20; refine (refWrap 0 16 true _ CT _ hown.out.sl HOK.out (by omega)).mono ?_; rintro e w1 ⟨v1, rfl, ho1, hb1⟩; have HO1 := hid (show Own .u8 5 wr.heap.size w1 v1 (wrapL 0 16 true CT) from ho1); have HB1 := hid (hbl.out.trans (hb1.mono hbl.out.size)); clear ho1 hb1)
            | (go_at_call 11; refine (wellCheck _ (wrapL 0 16 true CT) _ HO1.out.sl HUW.out HW.out).mono ?_; rintro e w2 ⟨rfl, hb2⟩; have HO2 := hid (HO1.out.below hb2); have HB2 := hid (HB1.out.trans (hb2.mono HB1.out.size)); clear hb2)
            | (go_at_call 13; refine (wellDepth _ (wrapL 0 16 true CT) _ HO2.out.sl HUW.out HW.out).mono ?_; rintro e w3 ⟨rfl, hb3⟩; have HO3 := hid (HO2.out.below hb3); have HB3 := hid (HB2.out.trans (hb3.mono HB2.out.size)); clear hb3)
            | (go_at_call 12; refine (wellPartsOk _ (wrapL 0 16 true CT) _ HO3.out.sl HUW.out HLW.out HW.out HCO.out).mono ?_; rw [HPW.out]; rintro e w4 ⟨v4, rfl, hr4, hb4⟩; have HR4 := hid hr4; have HB4 := hid (HB3.out.trans (hb4.mono HB3.out.size)); clear hb4 hr4)
            | (go_at_call 18; refine (keepRows _ _ xss xss _ HR4.out.rws (HRW.out.below HB4.out)).mono ?_; rw [eqR_self]; rintro e w5 ⟨rfl, n5, rfl⟩; have HB5 := hid (below_drewN' HB4.out n5))
            | (go_at_call 16; refine (wakesOk _).mono ?_; rintro e w9 ⟨rfl, hb9⟩; have HB9 := hid (HB5.out.trans (hb9.mono HB5.out.size)); clear hb9))
          go_ret
          exact ⟨rfl, HB9.out⟩
        · have hok : HdOk ⟨0, 17, true, CT.length, 0⟩ := ⟨⟨by dsimp only; omega, by dsimp only; omega⟩, ⟨by dsimp only; omega, by dsimp only; omega⟩, ⟨by dsimp only; omega, by dsimp only; omega⟩⟩
          have hct : U8 CT := by rw [h1]; exact u8_flat HU.out
          have HUW := hid (wrap_u8 hok hct)
          have HCO := hid (wrap_cons hok)
          have hn := (hdN_bd hok hct).2
          have HLW : Hid ((wrapL 0 17 true CT).length ≤ 1000000000000) := by show _ ≤ _; rw [wrap_len]; omega
          have HOK := hid hok
          rw [h1] at hok
          have hpw := parts_wrap HU.out h3.symm (by omega) (by omega) hok
          rw [← h1, ← h2] at hpw
          obtain ⟨hw1, hw2⟩ := hpw
          have HW := hid hw1
          have HPW := hid hw2
          clear h1 h2 h3 hok hw1 hw2 hn hct
          go_wp2_with (first
            | (go_at_call 20; refine (refWrap 0 17 true _ CT _ hown.out.sl HOK.out (by omega)).mono ?_; rintro e w1 ⟨v1, rfl, ho1, hb1⟩; have HO1 := hid (show Own .u8 5 wr.heap.size w1 v1 (wrapL 0 17 true CT) from ho1); have HB1 := hid (hbl.out.trans (hb1.mono hbl.out.size)); clear ho1 hb1)
            | (go_at_call 11; refine (wellCheck _ (wrapL 0 17 true CT) _ HO1.out.sl HUW.out HW.out).mono ?_; rintro e w2 ⟨rfl, hb2⟩; have HO2 := hid (HO1.out.below hb2); have HB2 := hid (HB1.out.trans (hb2.mono HB1.out.size)); clear hb2)
            | (go_at_call 13; refine (wellDepth _ (wrapL 0 17 true CT) _ HO2.out.sl HUW.out HW.out).mono ?_; rintro e w3 ⟨rfl, hb3⟩; have HO3 := hid (HO2.out.below hb3); have HB3 := hid (HB2.out.trans (hb3.mono HB2.out.size)); clear hb3)
            | (go_at_call 12; refine (wellPartsOk _ (wrapL 0 17 true CT) _ HO3.out.sl HUW.out HLW.out HW.out HCO.out).mono ?_; rw [HPW.out]; rintro e w4 ⟨v4, rfl, hr4, hb4⟩; have HR4 := hid hr4; have HB4 := hid (HB3.out.trans (hb4.mono HB3.out.size)); clear hb4 hr4)
            | (go_at_call 18; refine (keepRows _ _ xss xss _ HR4.out.rws (HRW.out.below HB4.out)).mono ?_; rw [eqR_self]; rintro e w5 ⟨rfl, n5, rfl⟩; have HB5 := hid (below_drewN' HB4.out n5))
            | (go_at_call 16; refine (wakesOk _).mono ?_; rintro e w9 ⟨rfl, hb9⟩; have HB9 := hid (HB5.out.trans (hb9.mono HB5.out.size)); clear hb9))
          go_ret
          exact ⟨rfl, HB9.out⟩

end Go.Proofs.Ytgjjncoelbhpeaa

