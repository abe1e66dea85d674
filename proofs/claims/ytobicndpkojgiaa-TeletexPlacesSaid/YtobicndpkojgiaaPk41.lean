/- Several texts in one: LawPlaces18. -/
import Derived.Test.YtobicndpkojgiaaPk39
import Derived.Test.YtobicndpkojgiaaPk15
/-! LawPlaces18 -/
namespace Go.Proofs.Ytobicndpkojgiaa
open Go.RowKit

theorem head_len (g : Int) : (headP g).length ≤ 2 := by
  unfold headP
  repeat' split
  all_goals (simp only [List.length_cons, List.length_nil]; try omega)
theorem head_u8 (g : Int) : U8 (headP g) := by
  unfold headP
  intro y hy
  repeat' split at hy
  all_goals first | (simp at hy; done) | (simp only [List.mem_cons, List.not_mem_nil, or_false] at hy; omega)
theorem byt_len2 (p : Int) : (bytP p).length ≤ 2 := by unfold bytP; split <;> simp
def ReadsAs (b xs : List Int) (e2 : Int) : Prop := ∀ (v : Value) (w : World), Sl .u8 w v b → Calls Try.prog 13 #[v] w fun e w' => ∃ x a, e = .returned (.tuple #[x, .int .i64 a, .int .i64 e2]) ∧ Own .i64 3 w.heap.size w' x xs ∧ Below w.heap.size w w'
theorem readsAs (HR : TReadOwn) {b xs : List Int} {r : List Int ⊕ (Nat × Int)} (h : read18 b = r) (hu : U8 b) (hl : b.length ≤ 100) (hx : r3L r = xs) : ReadsAs b xs (r3E r) := fun v w hs => (HR v b w hs hu (by omega)).mono fun e w' h2 => by
  obtain ⟨x, h3, h4, h5⟩ := h2
  rw [h] at h3 h4
  exact ⟨x, _, h3, by rw [← hx]; exact h4, h5⟩

set_option maxRecDepth 20000 in
set_option maxHeartbeats 8000000 in
theorem walkPlaces18 (HR : TReadOwn) (HP : TPutOk) (HH : THasOk) (CW : CWideOk) (CG : CGetOk) (at_ gg pp : Int) (w : World) :
    Calls Try.prog 6 #[.int .i64 at_, .int .i64 gg, .int .i64 pp] w fun e w' => e = .returned (.bool true) ∧ Below w.heap.size w w' := by
  have HW := hid (fun w => lawWakes18 HR.ok HP HH w)
  obtain ⟨n, hn⟩ : ∃ n, n = tabCodes.length := ⟨_, rfl⟩
  have hn1 : n ≤ 1000 := by rw [hn]; exact codes_len.1
  have hn0 : 0 < n := by rw [hn]; exact codes_len.2
  obtain ⟨K, hK, hK1, hK2⟩ := ix_rem at_ (n : Int) (by omega) (by omega)
  obtain ⟨j, rfl⟩ : ∃ j : Nat, K = (j : Int) := ⟨K.toNat, by omega⟩
  obtain ⟨K4, hK4, hK41, hK42⟩ := ix_rem gg 4 (by omega) (by omega)
  obtain ⟨G, rfl⟩ : ∃ j : Nat, K4 = (j : Int) := ⟨K4.toNat, by omega⟩
  obtain ⟨K9, hK9, hK91, hK92⟩ := ix_rem pp 94 (by omega) (by omega)
  obtain ⟨p, hpp⟩ : ∃ p : Int, p = 33 + K9 := ⟨_, rfl⟩
  have wn : IntKind.u64.wrap (n : Int) = (n : Int) := by simp only [IntKind.wrap, IntKind.bits, IntKind.signed]; simp; omega
  have hne : ((n : Int) == 0) = false := by simp; omega
  have wp : IntKind.i64.wrap (33 + K9) = p := by rw [hpp]; simp only [IntKind.wrap, IntKind.bits, IntKind.signed]; simp; omega
  have hmem : tabCodes.getD j noRg ∈ tabCodes := getD_mem18 (by omega)
  have HC := hid (fun w => (apiCodes w).mono fun e w' (h : ∃ v, e = .returned v ∧ OwnG 38 w.heap.size w' v tabCodes ∧ Below w.heap.size w w') => (show ∃ b o c, e = .returned (.slice (some ⟨b, o, none⟩) n c) ∧ n ≤ c ∧ b < w'.heap.size ∧ w'.cell? ⟨b, o + j * 3, none⟩ = some (.int .i64 (tabCodes.getD j noRg).f) ∧ w'.cell? ⟨b, o + j * 3 + 1, none⟩ = some (.int .i64 (tabCodes.getD j noRg).t) ∧ w'.cell? ⟨b, o + j * 3 + 2, none⟩ = some (.int .i64 (tabCodes.getD j noRg).v) ∧ Below w.heap.size w w' from by
    obtain ⟨v, rfl, h1, h2⟩ := h
    obtain ⟨b, o, c, rfl, hc, hcell⟩ := Sg.open18 h1.sg (by omega)
    obtain ⟨d1, d2, d3⟩ := hcell j (by omega)
    exact ⟨b, o, c, by rw [hn], by omega, World.block_lt_of_cell? w' _ d1, d1, d2, d3, h2⟩))
  generalize tabCodes.getD j noRg = r at HC hmem
  obtain ⟨rf, rt, rv⟩ := r
  simp only at HC
  have HMS := hid (code_set hmem)
  obtain ⟨-, -, h87, hm1, hm2, hm3, -, hi1, hi2⟩ := code_row hmem
  simp only at h87 hm1 hm2 hm3 hi1 hi2 HMS
  have HWD := hid (fun w => CW rf w)
  have HGT := hid (fun w => CG rf p w hi1 (by unfold inI; rw [decide_eq_true_iff]; omega))
  have hlen1 : (escP (G : Int) rf ++ headP G ++ bytP rt).length ≤ 8 := by have := esc_len (G : Int) rf; have := head_len G; have := byt_len2 rt; rw [List.length_append, List.length_append]; omega
  have hu1 : U8 (escP (G : Int) rf ++ headP G) := (esc_u8 (by omega) (by omega) HMS.out).append (head_u8 _)
  have R1 := hid (readsAs HR (place_read (g := (G : Int)) hmem (by omega) (by omega)) (hu1.append (byt_u8 hmem)) (Nat.le_trans hlen1 (by decide)) rfl)
  simp only [r3E] at R1
  have HEL := hid (show (escP (G : Int) rf).length ≤ 4 ∧ (headP (G : Int)).length ≤ 2 ∧ (bytP rt).length ≤ 2 from ⟨esc_len _ _, head_len _, byt_len2 _⟩)
  have hp33 : 33 ≤ p ∧ p ≤ 126 := by omega
  clear hn hpp
  go_enter Try.func6, Try.ntmps6
  go_upto_region 5 with (go_at_call 16; refine (HC.out _).mono ?_; rintro e w1 ⟨b1, o1, c1, rfl, hc1, hlt1, d1, d2, d3, hb1⟩; have HB1 := hid hb1; clear hb1)
  obtain ⟨B, hB⟩ : ∃ B, B = w1.heap.size := ⟨_, rfl⟩
  obtain ⟨W, hW⟩ : ∃ W, W = w1.alloc (.cells #[.int .i64 rf, .int .i64 rt, .int .i64 rv] 38) := ⟨_, rfl⟩
  have HX0 := hid (show Box 38 [.int .i64 rf, .int .i64 rt, .int .i64 rv] B W by rw [hW, hB]; exact Box.made w1 38 [.int .i64 rf, .int .i64 rt, .int .i64 rv])
  have HB0 := hid (show Below w.heap.size w W by rw [hW]; exact HB1.out.alloc HB1.out.size _)
  rw [← hW, ← hB]
  clear hW hB d1 d2 d3 hlt1
  have x0 := HX0.out.cell 0; have x1 := HX0.out.cell 1; have x2 := HX0.out.cell 2; simp only [List.getElem?_cons_zero, List.getElem?_cons_succ] at x0 x1 x2
  go_upto_region 7 with (go_at_call 17; refine (refEsc (G : Int) rf _ (by omega) (by omega) HMS.out).mono ?_; rintro e w2 ⟨v2, rfl, ho2, hb⟩; have HO2 := hid ho2; obtain ⟨a2, c2, hv2⟩ := ho2.sl.form; obtain ⟨n2, hn2⟩ : ∃ q, q = (escP (G : Int) rf).length := ⟨_, rfl⟩; have HN2 := hid hn2; rw [← hn2] at hv2; subst hv2; clear ho2 hn2; have HX2 := hid (HX0.out.below hb HX0.out.lt); have HC2 := hid hb; clear hb)
  go_cut [10] from 42 to 48 (fun hv wx => Hid (Sl .u8 wx hv (headP (G : Int))) ∧ Hid (Below w2.heap.size w2 wx))
  case first =>
    rcases (show G = 0 ∨ G = 1 ∨ G = 2 ∨ G = 3 by omega) with rfl | rfl | rfl | rfl
    all_goals (go_wp2_with (fail); go_meet)
    all_goals (refine ⟨?_, hid (by (repeat (first | exact Below.refl _ _ | exact below_drewN _ | refine Below.drew ?_ | refine Below.alloc ?_ (by first | omega | (simp; done) | (simp; omega)) _ | refine Below.setCell ?_ (by first | (simp; done) | (simp; omega)) _ | refine below_drewN' ?_ _)))⟩)
    · exact hid ⟨none, 0, rfl, Nat.le_refl _, by decide, .inl rfl⟩
    · exact hid ((lit_sl (w := w2) (xs := [14]) rfl rfl rfl (by simp)).below (by (repeat (first | exact Below.refl _ _ | exact below_drewN _ | refine Below.drew ?_ | refine Below.alloc ?_ (by first | omega | (simp; done) | (simp; omega)) _ | refine Below.setCell ?_ (by first | (simp; done) | (simp; omega)) _ | refine below_drewN' ?_ _))))
    · exact hid ((lit_sl (w := w2.alloc (.cells #[.int .u8 14] 5)) (xs := [27, 110]) (by simp) rfl rfl (by simp)).below (by (repeat (first | exact Below.refl _ _ | exact below_drewN _ | refine Below.drew ?_ | refine Below.alloc ?_ (by first | omega | (simp; done) | (simp; omega)) _ | refine Below.setCell ?_ (by first | (simp; done) | (simp; omega)) _ | refine below_drewN' ?_ _))))
    · exact hid ((lit_sl (w := (w2.alloc (.cells #[.int .u8 14] 5)).alloc (.cells #[.int .u8 27, .int .u8 110] 5)) (xs := [27, 111]) (by simp) rfl rfl (by simp)).below (by (repeat (first | exact Below.refl _ _ | exact below_drewN _ | refine Below.drew ?_ | refine Below.alloc ?_ (by first | omega | (simp; done) | (simp; omega)) _ | refine Below.setCell ?_ (by first | (simp; done) | (simp; omega)) _ | refine below_drewN' ?_ _))))
  case rest =>
    obtain ⟨hsl, hbl⟩ := hcut
    obtain ⟨ah, ch, hhv⟩ := hsl.out.form
    obtain ⟨nh, hnh⟩ : ∃ q, q = (headP (G : Int)).length := ⟨_, rfl⟩
    rw [← hnh] at hhv
    subst hhv
    have HX3 := hid (HX2.out.below hbl.out HX2.out.lt)
    have HC3 := hid (HC2.out.trans (hbl.out.mono HC2.out.size))
    have HO3 := hid (HO2.out.below hbl.out)
    clear HX2 HC2 HO2 hbl hnh x0 x1 x2
    go_upto_region 9 with (at_builtin; go_loud (refine wpList_app _ rfl _ _ 23 rfl .u8 W.heap.size 5 1 Try.underlying23 Try.infoU8 _ (escP (G : Int) rf) (headP (G : Int)) rfl HO3.out _ rfl hsl.out (by have := HEL.out; unfold maxLen; omega) (by have := HEL.out; omega) HC3.out.size ?_); intro u4 v4 ho hg hb hn; have HO4 := hid ho; have HX4 := hid (HX3.out.below hb HX0.out.lt); have HC4 := hid (HC3.out.trans hb); clear ho hg hb hn)
    obtain ⟨n4, hn4⟩ : ∃ q, q = (escP (G : Int) rf ++ headP (G : Int)).length := ⟨_, rfl⟩
    obtain ⟨a4, c4, hv4⟩ := HO4.out.sl.form
    rw [← hn4] at hv4
    subst hv4
    have HN4 := hid hn4
    obtain ⟨t, ht⟩ : ∃ t : Nat, rt = (t : Int) := ⟨rt.toNat, by omega⟩
    subst ht
    clear hn4 HX3 HC3 HO3 hsl 
    have x0 := HX4.out.cell 0; have x1 := HX4.out.cell 1; have x2 := HX4.out.cell 2; simp only [List.getElem?_cons_zero, List.getElem?_cons_succ] at x0 x1 x2
    go_upto_region 10 with (fail)
    have PL5 := hid (lit_sl (k := .u8) (w := v4) (xs := [(t : Int) % 256]) (e := 5) (n := v4.heap.size) (len := 1) (cs := #[.int .u8 ((t : Int) % 256)]) rfl rfl rfl (by simp))
    have hb : Below v4.heap.size v4 (v4.alloc (.cells #[.int .u8 ((t : Int) % 256)] 5)) := (Below.refl _ _).alloc (Nat.le_refl _) _
    have HX5 := hid (HX4.out.below hb HX4.out.lt)
    have HC5 := hid (HC4.out.trans (hb.mono HC4.out.size))
    have HO5 := hid (HO4.out.below hb)
    clear hb x0 x1 x2
    generalize v4.heap.size = b5 at PL5 ⊢
    generalize v4.alloc (.cells #[.int .u8 ((t : Int) % 256)] 5) = v5 at PL5 HX5 HC5 HO5 ⊢
    have x0 := HX5.out.cell 0; have x1 := HX5.out.cell 1; have x2 := HX5.out.cell 2; simp only [List.getElem?_cons_zero, List.getElem?_cons_succ] at x0 x1 x2
    clear HX4 HC4 HO4
    have HLL := hid (show (escP (G : Int) rf ++ headP (G : Int)).length ≤ 6 from by have := HEL.out; rw [List.length_append]; omega)
    by_cases hw : rf = 87
    · have e87 : (rf == 87) = true := by simpa using hw
      rw [e87] at HWD h87
      have htb : 255 < (t : Int) := of_decide_eq_true h87.symm
      have hby : bytP (t : Int) = [(t : Int) / 256, (t : Int) % 256] := by unfold bytP; rw [if_pos htb]
      have R1A := hid (show ReadsAs (escP (G : Int) rf ++ headP (G : Int) ++ [(t : Int) / 256, (t : Int) % 256]) [rv] 0 from by rw [← hby]; exact R1.out)
      clear h87 hw PL5 hby
      have w1 : IntKind.u8.wrap ((t : Int) / 256) = (t : Int) / 256 := by simp only [IntKind.wrap, IntKind.bits, IntKind.signed]; simp; omega
      go_wp2_with (first
        | (have _u := HC11; clear _u; go_at_call 12; with_reducible refine (HW.out _).mono ?_; rintro e v20 ⟨rfl, hb⟩; have HC20 := hid (HC11.out.trans (hb.mono HC11.out.size)); clear hb)
        | (have _u := HC10; clear _u; go_at_call 18; with_reducible refine (HWD.out _).mono ?_; rintro e v11 ⟨rfl, hb⟩; have HX11 := hid (HX10.out.below hb HX10.out.lt); have HC11 := hid (HC10.out.trans (hb.mono HC10.out.size)); have HO11 := hid (HO10.out.below hb); have x0 := HX11.out.cell 0; have x1 := HX11.out.cell 1; have x2 := HX11.out.cell 2; simp only [List.getElem?_cons_zero, List.getElem?_cons_succ] at x0 x1 x2; clear hb)
        | (have _u := HC9; clear _u; go_at_call 14; refine (keepInts _ _ [rv] [rv] _ (HS9.out.below (by (repeat (first | exact Below.refl _ _ | exact below_drewN _ | refine Below.drew ?_ | refine Below.alloc ?_ (by simp) _ | refine Below.setCell ?_ (by simp) _ | refine below_drewN' ?_ _)))) (lit_sl (by first | simp | rfl) rfl rfl (by simp))).mono ?_; rw [eqL_self]; rintro e v10 ⟨rfl, n10, hw10⟩; have hb : Below v9.heap.size v9 v10 := (by rw [hw10]; exact below_drewN' ((Below.refl _ _).alloc (Nat.le_refl _) _) n10); clear hw10; have HX10 := hid (HX9.out.below hb HX9.out.lt); have HC10 := hid (HC9.out.trans (hb.mono HC9.out.size)); have HO10 := hid (HO9.out.below hb); have x0 := HX10.out.cell 0; have x1 := HX10.out.cell 1; have x2 := HX10.out.cell 2; simp only [List.getElem?_cons_zero, List.getElem?_cons_succ] at x0 x1 x2; clear hb)
        | (have _u := HC8; clear _u; go_at_call 13; refine (R1A.out _ _ HB8.out.sl).mono ?_; rintro e v9 ⟨x9, a9, rfl, ho, hb⟩; have HS9 := hid ho.sl; obtain ⟨sa9, sc9, hv9⟩ := ho.sl.form; simp only [List.length_cons, List.length_nil] at hv9; subst hv9; clear ho; have HX9 := hid (HX8.out.below hb HX8.out.lt); have HC9 := hid (HC8.out.trans (hb.mono HC8.out.size)); have HO9 := hid (HO8.out.below hb); have x0 := HX9.out.cell 0; have x1 := HX9.out.cell 1; have x2 := HX9.out.cell 2; simp only [List.getElem?_cons_zero, List.getElem?_cons_succ] at x0 x1 x2; clear hb)
        | (have _u := HC7; clear _u; at_builtin; go_loud (refine wpList_app _ rfl _ _ 23 rfl .u8 v6.heap.size 5 1 Try.underlying23 Try.infoU8 _ (escP (G : Int) rf ++ headP (G : Int)) [(t : Int) / 256, (t : Int) % 256] rfl HT7.out _ rfl PL7.out (by have := HLL.out; unfold maxLen; simp only [List.length_cons, List.length_nil]; omega) (by have := HLL.out; simp only [List.length_cons, List.length_nil]; omega) HQ7.out.size ?_); intro u8 v8 ho hg hb2 hn; have HB8 := hid ho; have hb := HQ7.out.trans hb2; clear ho hg hb2 hn; have HX8 := hid (HX6.out.below hb HX6.out.lt); have HC8 := hid (HC6.out.trans (hb.mono HC6.out.size)); have HO8 := hid (HO6.out.below hb); have x0 := HX8.out.cell 0; have x1 := HX8.out.cell 1; have x2 := HX8.out.cell 2; simp only [List.getElem?_cons_zero, List.getElem?_cons_succ] at x0 x1 x2; clear hb)
        | (have _u := HC6; clear _u; go_at_call 19; with_reducible refine (keepTwin _ (escP (G : Int) rf ++ headP (G : Int)) _ (HO6.out.sl.below (by (repeat (first | exact Below.refl _ _ | exact below_drewN _ | refine Below.drew ?_ | refine Below.alloc ?_ (by simp) _ | refine Below.setCell ?_ (by simp) _ | refine below_drewN' ?_ _)))) (by have := HN4.out; have := HLL.out; omega)).mono ?_; rintro e v7 ⟨tv, rfl, ho, hb⟩; have PL7 := hid ((lit_sl (k := .u8) (w := v6) (xs := [(t : Int) / 256, (t : Int) % 256]) (e := 5) (n := v6.heap.size) (len := 2) (cs := #[.int .u8 ((t : Int) / 256), .int .u8 ((t : Int) % 256)]) rfl rfl rfl (by simp)).below hb); have HT7 := hid (ho.mono (base' := v6.heap.size) (by simp)); clear ho; replace hb := ((Below.refl v6.heap.size v6).alloc (Nat.le_refl _) _).trans (hb.mono (by simp)); have HQ7 := hid hb; have HX7 := hid (HX6.out.below hb HX6.out.lt); have HC7 := hid (HC6.out.trans (hb.mono HC6.out.size)); have HO7 := hid (HO6.out.below hb); have x0 := HX7.out.cell 0; have x1 := HX7.out.cell 1; have x2 := HX7.out.cell 2; simp only [List.getElem?_cons_zero, List.getElem?_cons_succ] at x0 x1 x2; clear hb)
        | (have _u := HC5; clear _u; go_at_call 18; with_reducible refine (HWD.out _).mono ?_; rintro e v6 ⟨rfl, hb⟩; have HX6 := hid (HX5.out.below hb HX5.out.lt); have HC6 := hid (HC5.out.trans (hb.mono HC5.out.size)); have HO6 := hid (HO5.out.below hb); have x0 := HX6.out.cell 0; have x1 := HX6.out.cell 1; have x2 := HX6.out.cell 2; simp only [List.getElem?_cons_zero, List.getElem?_cons_succ] at x0 x1 x2; clear hb))
      go_ret
      exact ⟨rfl, HB0.out.trans (HC20.out.mono HB0.out.size)⟩
    · have e87 : (rf == 87) = false := by simpa using hw
      rw [e87] at HWD h87
      have htb : ¬ 255 < (t : Int) := of_decide_eq_false h87.symm
      have hby : bytP (t : Int) = [(t : Int)] := by unfold bytP; rw [if_neg htb]
      have R1A := hid (show ReadsAs (escP (G : Int) rf ++ headP (G : Int) ++ [(t : Int)]) [rv] 0 from by rw [← hby]; exact R1.out)
      rw [show (t : Int) % 256 = (t : Int) by omega] at PL5
      clear h87 hby e87
      by_cases h103 : rf = 103
      · have e103 : (rf == 103) = true := by simpa using h103
        clear h103 hw
        go_wp2_with (first
        | (have _u := HC11; clear _u; go_at_call 12; with_reducible refine (HW.out _).mono ?_; rintro e v20 ⟨rfl, hb⟩; have HC20 := hid (HC11.out.trans (hb.mono HC11.out.size)); clear hb)
        | (have _u := HC10; clear _u; go_at_call 18; with_reducible refine (HWD.out _).mono ?_; rintro e v11 ⟨rfl, hb⟩; have HX11 := hid (HX10.out.below hb HX10.out.lt); have HC11 := hid (HC10.out.trans (hb.mono HC10.out.size)); have HO11 := hid (HO10.out.below hb); have x0 := HX11.out.cell 0; have x1 := HX11.out.cell 1; have x2 := HX11.out.cell 2; simp only [List.getElem?_cons_zero, List.getElem?_cons_succ] at x0 x1 x2; clear hb)
        | (have _u := HC9; clear _u; go_at_call 14; refine (keepInts _ _ [rv] [rv] _ (HS9.out.below (by (repeat (first | exact Below.refl _ _ | exact below_drewN _ | refine Below.drew ?_ | refine Below.alloc ?_ (by simp) _ | refine Below.setCell ?_ (by simp) _ | refine below_drewN' ?_ _)))) (lit_sl (by first | simp | rfl) rfl rfl (by simp))).mono ?_; rw [eqL_self]; rintro e v10 ⟨rfl, n10, hw10⟩; have hb : Below v9.heap.size v9 v10 := (by rw [hw10]; exact below_drewN' ((Below.refl _ _).alloc (Nat.le_refl _) _) n10); clear hw10; have HX10 := hid (HX9.out.below hb HX9.out.lt); have HC10 := hid (HC9.out.trans (hb.mono HC9.out.size)); have HO10 := hid (HO9.out.below hb); have x0 := HX10.out.cell 0; have x1 := HX10.out.cell 1; have x2 := HX10.out.cell 2; simp only [List.getElem?_cons_zero, List.getElem?_cons_succ] at x0 x1 x2; clear hb)
        | (have _u := HC8; clear _u; go_at_call 13; refine (R1A.out _ _ HB8.out.sl).mono ?_; rintro e v9 ⟨x9, a9, rfl, ho, hb⟩; have HS9 := hid ho.sl; obtain ⟨sa9, sc9, hv9⟩ := ho.sl.form; simp only [List.length_cons, List.length_nil] at hv9; subst hv9; clear ho; have HX9 := hid (HX8.out.below hb HX8.out.lt); have HC9 := hid (HC8.out.trans (hb.mono HC8.out.size)); have HO9 := hid (HO8.out.below hb); have x0 := HX9.out.cell 0; have x1 := HX9.out.cell 1; have x2 := HX9.out.cell 2; simp only [List.getElem?_cons_zero, List.getElem?_cons_succ] at x0 x1 x2; clear hb)
        | (have _u := HC7; clear _u; at_builtin; go_loud (refine wpList_app _ rfl _ _ 23 rfl .u8 v6.heap.size 5 1 Try.underlying23 Try.infoU8 _ (escP (G : Int) rf ++ headP (G : Int)) [(t : Int)] rfl HT7.out _ rfl PL7.out (by have := HLL.out; unfold maxLen; simp only [List.length_cons, List.length_nil]; omega) (by have := HLL.out; simp only [List.length_cons, List.length_nil]; omega) HQ7.out.size ?_); intro u8 v8 ho hg hb2 hn; have HB8 := hid ho; have hb := HQ7.out.trans hb2; clear ho hg hb2 hn; have HX8 := hid (HX6.out.below hb HX6.out.lt); have HC8 := hid (HC6.out.trans (hb.mono HC6.out.size)); have HO8 := hid (HO6.out.below hb); have x0 := HX8.out.cell 0; have x1 := HX8.out.cell 1; have x2 := HX8.out.cell 2; simp only [List.getElem?_cons_zero, List.getElem?_cons_succ] at x0 x1 x2; clear hb)
        | (have _u := HC6; clear _u; go_at_call 19; with_reducible refine (keepTwin _ (escP (G : Int) rf ++ headP (G : Int)) _ (HO6.out.sl) (by have := HN4.out; have := HLL.out; omega)).mono ?_; rintro e v7 ⟨tv, rfl, ho, hb⟩; have PL7 := hid (PL6.out.below hb); have HT7 := hid ho; clear ho; have HQ7 := hid hb; have HX7 := hid (HX6.out.below hb HX6.out.lt); have HC7 := hid (HC6.out.trans (hb.mono HC6.out.size)); have HO7 := hid (HO6.out.below hb); have x0 := HX7.out.cell 0; have x1 := HX7.out.cell 1; have x2 := HX7.out.cell 2; simp only [List.getElem?_cons_zero, List.getElem?_cons_succ] at x0 x1 x2; clear hb)
        | (have _u := HC5; clear _u; go_at_call 18; with_reducible refine (HWD.out _).mono ?_; rintro e v6 ⟨rfl, hb⟩; have HX6 := hid (HX5.out.below hb HX5.out.lt); have HC6 := hid (HC5.out.trans (hb.mono HC5.out.size)); have HO6 := hid (HO5.out.below hb); have PL6 := hid (PL5.out.below hb); have x0 := HX6.out.cell 0; have x1 := HX6.out.cell 1; have x2 := HX6.out.cell 2; simp only [List.getElem?_cons_zero, List.getElem?_cons_succ] at x0 x1 x2; clear hb))
        go_ret
        exact ⟨rfl, HB0.out.trans (HC20.out.mono HB0.out.size)⟩
      · have e103 : (rf == 103) = false := by simpa using h103
        cases hg : (getS16 rf p).2 with
        | true =>
          rw [hg] at HGT
          generalize (getS16 rf p).1 = q at HGT
          clear h103 hw hg
          go_wp2_with (first
        | (have _u := HC12; clear _u; go_at_call 12; with_reducible refine (HW.out _).mono ?_; rintro e v20 ⟨rfl, hb⟩; have HC20 := hid (HC12.out.trans (hb.mono HC12.out.size)); clear hb)
        | (have _u := HC11; clear _u; go_at_call 20; with_reducible refine (HGT.out _).mono ?_; rintro e v12 ⟨rfl, hb⟩; have HX12 := hid (HX11.out.below hb HX11.out.lt); have HC12 := hid (HC11.out.trans (hb.mono HC11.out.size)); have HO12 := hid (HO11.out.below hb); have x0 := HX12.out.cell 0; have x1 := HX12.out.cell 1; have x2 := HX12.out.cell 2; simp only [List.getElem?_cons_zero, List.getElem?_cons_succ] at x0 x1 x2; clear hb)
        | (have _u := HC10; clear _u; go_at_call 18; with_reducible refine (HWD.out _).mono ?_; rintro e v11 ⟨rfl, hb⟩; have HX11 := hid (HX10.out.below hb HX10.out.lt); have HC11 := hid (HC10.out.trans (hb.mono HC10.out.size)); have HO11 := hid (HO10.out.below hb); have x0 := HX11.out.cell 0; have x1 := HX11.out.cell 1; have x2 := HX11.out.cell 2; simp only [List.getElem?_cons_zero, List.getElem?_cons_succ] at x0 x1 x2; clear hb)
        | (have _u := HC9; clear _u; go_at_call 14; refine (keepInts _ _ [rv] [rv] _ (HS9.out.below (by (repeat (first | exact Below.refl _ _ | exact below_drewN _ | refine Below.drew ?_ | refine Below.alloc ?_ (by simp) _ | refine Below.setCell ?_ (by simp) _ | refine below_drewN' ?_ _)))) (lit_sl (by first | simp | rfl) rfl rfl (by simp))).mono ?_; rw [eqL_self]; rintro e v10 ⟨rfl, n10, hw10⟩; have hb : Below v9.heap.size v9 v10 := (by rw [hw10]; exact below_drewN' ((Below.refl _ _).alloc (Nat.le_refl _) _) n10); clear hw10; have HX10 := hid (HX9.out.below hb HX9.out.lt); have HC10 := hid (HC9.out.trans (hb.mono HC9.out.size)); have HO10 := hid (HO9.out.below hb); have x0 := HX10.out.cell 0; have x1 := HX10.out.cell 1; have x2 := HX10.out.cell 2; simp only [List.getElem?_cons_zero, List.getElem?_cons_succ] at x0 x1 x2; clear hb)
        | (have _u := HC8; clear _u; go_at_call 13; refine (R1A.out _ _ HB8.out.sl).mono ?_; rintro e v9 ⟨x9, a9, rfl, ho, hb⟩; have HS9 := hid ho.sl; obtain ⟨sa9, sc9, hv9⟩ := ho.sl.form; simp only [List.length_cons, List.length_nil] at hv9; subst hv9; clear ho; have HX9 := hid (HX8.out.below hb HX8.out.lt); have HC9 := hid (HC8.out.trans (hb.mono HC8.out.size)); have HO9 := hid (HO8.out.below hb); have x0 := HX9.out.cell 0; have x1 := HX9.out.cell 1; have x2 := HX9.out.cell 2; simp only [List.getElem?_cons_zero, List.getElem?_cons_succ] at x0 x1 x2; clear hb)
        | (have _u := HC7; clear _u; at_builtin; go_loud (refine wpList_app _ rfl _ _ 23 rfl .u8 v6.heap.size 5 1 Try.underlying23 Try.infoU8 _ (escP (G : Int) rf ++ headP (G : Int)) [(t : Int)] rfl HT7.out _ rfl PL7.out (by have := HLL.out; unfold maxLen; simp only [List.length_cons, List.length_nil]; omega) (by have := HLL.out; simp only [List.length_cons, List.length_nil]; omega) HQ7.out.size ?_); intro u8 v8 ho hg hb2 hn; have HB8 := hid ho; have hb := HQ7.out.trans hb2; clear ho hg hb2 hn; have HX8 := hid (HX6.out.below hb HX6.out.lt); have HC8 := hid (HC6.out.trans (hb.mono HC6.out.size)); have HO8 := hid (HO6.out.below hb); have x0 := HX8.out.cell 0; have x1 := HX8.out.cell 1; have x2 := HX8.out.cell 2; simp only [List.getElem?_cons_zero, List.getElem?_cons_succ] at x0 x1 x2; clear hb)
        | (have _u := HC6; clear _u; go_at_call 19; with_reducible refine (keepTwin _ (escP (G : Int) rf ++ headP (G : Int)) _ (HO6.out.sl) (by have := HN4.out; have := HLL.out; omega)).mono ?_; rintro e v7 ⟨tv, rfl, ho, hb⟩; have PL7 := hid (PL6.out.below hb); have HT7 := hid ho; clear ho; have HQ7 := hid hb; have HX7 := hid (HX6.out.below hb HX6.out.lt); have HC7 := hid (HC6.out.trans (hb.mono HC6.out.size)); have HO7 := hid (HO6.out.below hb); have x0 := HX7.out.cell 0; have x1 := HX7.out.cell 1; have x2 := HX7.out.cell 2; simp only [List.getElem?_cons_zero, List.getElem?_cons_succ] at x0 x1 x2; clear hb)
        | (have _u := HC5; clear _u; go_at_call 18; with_reducible refine (HWD.out _).mono ?_; rintro e v6 ⟨rfl, hb⟩; have HX6 := hid (HX5.out.below hb HX5.out.lt); have HC6 := hid (HC5.out.trans (hb.mono HC5.out.size)); have HO6 := hid (HO5.out.below hb); have PL6 := hid (PL5.out.below hb); have x0 := HX6.out.cell 0; have x1 := HX6.out.cell 1; have x2 := HX6.out.cell 2; simp only [List.getElem?_cons_zero, List.getElem?_cons_succ] at x0 x1 x2; clear hb))
          go_ret
          exact ⟨rfl, HB0.out.trans (HC20.out.mono HB0.out.size)⟩
        | false =>
          have R2 := hid (readsAs HR (place_bad (g := (G : Int)) hmem (by omega) (by omega) (p := p) (by omega) hw h103 hg) (hu1.append (by intro y hy; simp only [List.mem_singleton] at hy; omega)) (by have := HLL.out; show (escP (G : Int) rf ++ headP (G : Int) ++ [p]).length ≤ 100; rw [List.length_append]; simp only [List.length_cons, List.length_nil]; omega) rfl)
          simp only [r3E] at R2
          rw [hg] at HGT
          generalize (getS16 rf p).1 = q at HGT
          have w8 : IntKind.u8.wrap p = p := by simp only [IntKind.wrap, IntKind.bits, IntKind.signed]; simp; omega
          clear h103 hw hg
          go_wp2_with (first
        | (have _u := HC14; clear _u; go_at_call 12; with_reducible refine (HW.out _).mono ?_; rintro e v20 ⟨rfl, hb⟩; have HC20 := hid (HC14.out.trans (hb.mono HC14.out.size)); clear hb)
        | (have _u := HC13; clear _u; go_at_call 13; refine (R2.out _ _ HB13.out.sl).mono ?_; rintro e v14 ⟨x14, a14, rfl, ho, hb⟩; have HC14 := hid (HC13.out.trans (hb.mono HC13.out.size)); clear ho hb)
        | (have _u := HC12; clear _u; at_builtin; go_loud (refine wpList_app _ rfl _ _ 23 rfl .u8 W.heap.size 5 1 Try.underlying23 Try.infoU8 _ (escP (G : Int) rf ++ headP (G : Int)) [p] rfl (HO12.out.alloc _) _ rfl (lit_sl (by first | simp | rfl) rfl rfl (by simp)) (by have := HLL.out; unfold maxLen; simp only [List.length_cons, List.length_nil]; omega) (by have := HLL.out; simp only [List.length_cons, List.length_nil]; omega) (by have := HC12.out.size; simp; omega) ?_); intro u13 v13 ho hg hb2 hn; have HB13 := hid ho; have HC13 := hid ((HC12.out.alloc HC12.out.size _).trans hb2); clear ho hg hb2 hn)
        | (have _u := HC11; clear _u; go_at_call 20; with_reducible refine (HGT.out _).mono ?_; rintro e v12 ⟨rfl, hb⟩; have HX12 := hid (HX11.out.below hb HX11.out.lt); have HC12 := hid (HC11.out.trans (hb.mono HC11.out.size)); have HO12 := hid (HO11.out.below hb); have x0 := HX12.out.cell 0; have x1 := HX12.out.cell 1; have x2 := HX12.out.cell 2; simp only [List.getElem?_cons_zero, List.getElem?_cons_succ] at x0 x1 x2; clear hb)
        | (have _u := HC10; clear _u; go_at_call 18; with_reducible refine (HWD.out _).mono ?_; rintro e v11 ⟨rfl, hb⟩; have HX11 := hid (HX10.out.below hb HX10.out.lt); have HC11 := hid (HC10.out.trans (hb.mono HC10.out.size)); have HO11 := hid (HO10.out.below hb); have x0 := HX11.out.cell 0; have x1 := HX11.out.cell 1; have x2 := HX11.out.cell 2; simp only [List.getElem?_cons_zero, List.getElem?_cons_succ] at x0 x1 x2; clear hb)
        | (have _u := HC9; clear _u; go_at_call 14; refine (keepInts _ _ [rv] [rv] _ (HS9.out.below (by (repeat (first | exact Below.refl _ _ | exact below_drewN _ | refine Below.drew ?_ | refine Below.alloc ?_ (by simp) _ | refine Below.setCell ?_ (by simp) _ | refine below_drewN' ?_ _)))) (lit_sl (by first | simp | rfl) rfl rfl (by simp))).mono ?_; rw [eqL_self]; rintro e v10 ⟨rfl, n10, hw10⟩; have hb : Below v9.heap.size v9 v10 := (by rw [hw10]; exact below_drewN' ((Below.refl _ _).alloc (Nat.le_refl _) _) n10); clear hw10; have HX10 := hid (HX9.out.below hb HX9.out.lt); have HC10 := hid (HC9.out.trans (hb.mono HC9.out.size)); have HO10 := hid (HO9.out.below hb); have x0 := HX10.out.cell 0; have x1 := HX10.out.cell 1; have x2 := HX10.out.cell 2; simp only [List.getElem?_cons_zero, List.getElem?_cons_succ] at x0 x1 x2; clear hb)
        | (have _u := HC8; clear _u; go_at_call 13; refine (R1A.out _ _ HB8.out.sl).mono ?_; rintro e v9 ⟨x9, a9, rfl, ho, hb⟩; have HS9 := hid ho.sl; obtain ⟨sa9, sc9, hv9⟩ := ho.sl.form; simp only [List.length_cons, List.length_nil] at hv9; subst hv9; clear ho; have HX9 := hid (HX8.out.below hb HX8.out.lt); have HC9 := hid (HC8.out.trans (hb.mono HC8.out.size)); have HO9 := hid (HO8.out.below hb); have x0 := HX9.out.cell 0; have x1 := HX9.out.cell 1; have x2 := HX9.out.cell 2; simp only [List.getElem?_cons_zero, List.getElem?_cons_succ] at x0 x1 x2; clear hb)
        | (have _u := HC7; clear _u; at_builtin; go_loud (refine wpList_app _ rfl _ _ 23 rfl .u8 v6.heap.size 5 1 Try.underlying23 Try.infoU8 _ (escP (G : Int) rf ++ headP (G : Int)) [(t : Int)] rfl HT7.out _ rfl PL7.out (by have := HLL.out; unfold maxLen; simp only [List.length_cons, List.length_nil]; omega) (by have := HLL.out; simp only [List.length_cons, List.length_nil]; omega) HQ7.out.size ?_); intro u8 v8 ho hg hb2 hn; have HB8 := hid ho; have hb := HQ7.out.trans hb2; clear ho hg hb2 hn; have HX8 := hid (HX6.out.below hb HX6.out.lt); have HC8 := hid (HC6.out.trans (hb.mono HC6.out.size)); have HO8 := hid (HO6.out.below hb); have x0 := HX8.out.cell 0; have x1 := HX8.out.cell 1; have x2 := HX8.out.cell 2; simp only [List.getElem?_cons_zero, List.getElem?_cons_succ] at x0 x1 x2; clear hb)
        | (have _u := HC6; clear _u; go_at_call 19; with_reducible refine (keepTwin _ (escP (G : Int) rf ++ headP (G : Int)) _ (HO6.out.sl) (by have := HN4.out; have := HLL.out; omega)).mono ?_; rintro e v7 ⟨tv, rfl, ho, hb⟩; have PL7 := hid (PL6.out.below hb); have HT7 := hid ho; clear ho; have HQ7 := hid hb; have HX7 := hid (HX6.out.below hb HX6.out.lt); have HC7 := hid (HC6.out.trans (hb.mono HC6.out.size)); have HO7 := hid (HO6.out.below hb); have x0 := HX7.out.cell 0; have x1 := HX7.out.cell 1; have x2 := HX7.out.cell 2; simp only [List.getElem?_cons_zero, List.getElem?_cons_succ] at x0 x1 x2; clear hb)
        | (have _u := HC5; clear _u; go_at_call 18; with_reducible refine (HWD.out _).mono ?_; rintro e v6 ⟨rfl, hb⟩; have HX6 := hid (HX5.out.below hb HX5.out.lt); have HC6 := hid (HC5.out.trans (hb.mono HC5.out.size)); have HO6 := hid (HO5.out.below hb); have PL6 := hid (PL5.out.below hb); have x0 := HX6.out.cell 0; have x1 := HX6.out.cell 1; have x2 := HX6.out.cell 2; simp only [List.getElem?_cons_zero, List.getElem?_cons_succ] at x0 x1 x2; clear hb))
          go_ret
          exact ⟨rfl, HB0.out.trans (HC20.out.mono HB0.out.size)⟩
end Go.Proofs.Ytobicndpkojgiaa
