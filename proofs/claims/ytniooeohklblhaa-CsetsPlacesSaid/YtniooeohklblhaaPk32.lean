/- Several texts in one: LawPlaces16, LawAccents16, LawFinals16. -/
import Derived.Test.YtniooeohklblhaaPk23
import Derived.Test.YtniooeohklblhaaPk31
import Derived.Test.YtniooeohklblhaaPk19
import Derived.Test.YtniooeohklblhaaPk1
/-! LawPlaces16 -/
namespace Go.Proofs.Ytniooeohklblhaa
open Go.RowKit
theorem Sg.open1 {w : World} {v : Value} {l : List Rg} (h : Sg w v l) (h0 : 0 < l.length) : ∃ b o c, v = .slice (some ⟨b, o, none⟩) l.length c ∧ l.length ≤ c ∧ ∀ i, i < l.length → w.cell? ⟨b, o + i * 3, none⟩ = some (.int .i64 (l.getD i noRg).f) ∧ w.cell? ⟨b, o + i * 3 + 1, none⟩ = some (.int .i64 (l.getD i noRg).t) ∧ w.cell? ⟨b, o + i * 3 + 2, none⟩ = some (.int .i64 (l.getD i noRg).v) := by
  obtain ⟨a, c, rfl, h1, -, h⟩ := h
  rcases h with h | ⟨b, o, rfl, -, hc⟩
  · omega
  · exact ⟨b, o, c, rfl, h1, hc⟩
theorem ucdScalarB16 (c : Int) (w : World) : Calls Try.prog 22 #[.int .i64 c] w fun e w' => e = .returned (.bool (scalarB c)) ∧ Below w.heap.size w w' := (ucdScalar c w).mono fun e w' h => by
  obtain ⟨h1, rfl⟩ := h
  exact ⟨h1, Below.refl _ _⟩

set_option maxRecDepth 10000 in
set_option maxHeartbeats 4000000 in
theorem walkPlaces16 (H : CsAll) (at_ : Int) (w : World) :
    Calls Try.prog 4 #[.int .i64 at_] w fun e w' => e = .returned (.bool true) ∧ Below w.heap.size w w' := by
  have HW := hid (fun w => lawWakes16 H w)
  obtain ⟨n, hn⟩ : ∃ n, n = (tabCodes).length := ⟨_, rfl⟩
  have hn1 : n ≤ 1000 := by rw [hn]; exact codes_len.1
  have hn0 : 0 < n := by rw [hn]; exact codes_len.2
  obtain ⟨K, hK, hK1, hK2⟩ := ix_rem at_ (n : Int) (by omega) (by omega)
  obtain ⟨j, rfl⟩ : ∃ j : Nat, K = (j : Int) := ⟨K.toNat, by omega⟩
  have hj : j < n := by omega
  have wn : IntKind.u64.wrap (n : Int) = (n : Int) := by simp only [IntKind.wrap, IntKind.bits, IntKind.signed]; simp; omega
  have hne : ((n : Int) == 0) = false := by simp; omega
  have hmem : (tabCodes).getD j noRg ∈ (tabCodes) := getD_mem (by omega)
  have HCALL := hid (fun w => (apiCodes w).mono fun e w' (h : ∃ v, e = .returned v ∧ OwnG 35 w.heap.size w' v (tabCodes) ∧ Below w.heap.size w w') => (show ∃ b o c, e = .returned (.slice (some ⟨b, o, none⟩) n c) ∧ n ≤ c ∧ b < w'.heap.size ∧ w'.cell? ⟨b, o + j * 3, none⟩ = some (.int .i64 ((tabCodes).getD j noRg).f) ∧ w'.cell? ⟨b, o + j * 3 + 1, none⟩ = some (.int .i64 ((tabCodes).getD j noRg).t) ∧ w'.cell? ⟨b, o + j * 3 + 2, none⟩ = some (.int .i64 ((tabCodes).getD j noRg).v) ∧ Below w.heap.size w w' from by
    obtain ⟨v, rfl, h1, h2⟩ := h
    obtain ⟨b, o, c, rfl, hc, hcell⟩ := Sg.open1 h1.sg (by omega)
    obtain ⟨d1, d2, d3⟩ := hcell j (by omega)
    exact ⟨b, o, c, by rw [hn], by omega, World.block_lt_of_cell? w' _ d1, d1, d2, d3, h2⟩))
  have hall := List.all_eq_true.1 codes_ok _ hmem
  clear hmem hn
  generalize tabCodes.getD j noRg = r at HCALL hall
  obtain ⟨rf, rt, rv⟩ := r
  unfold codeOk at hall
  simp only [Bool.and_eq_true, decide_eq_true_eq, beq_iff_eq] at hall HCALL
  obtain ⟨a1, a2, a3, a4, a5, a6, a7, ⟨⟨a8, a9⟩, a10⟩, a11, a12⟩ := hall
  obtain ⟨t, rfl⟩ : ∃ t : Nat, rt = (t : Int) := ⟨rt.toNat, by omega⟩
  obtain ⟨p, hp⟩ : ∃ p, p = (findS16 rf rv).1 := ⟨_, rfl⟩
  have hfp : findS16 rf rv = (p, true) := by rw [hp, ← a2]
  rw [← hp] at a3 a11
  have G1 := hid (fun w => H.get rf (t : Int) w a8 a9)
  rw [a1] at G1
  have G2 := hid (fun w => H.find rf rv w a8 a10)
  rw [hfp] at G2
  have G3 := hid (fun w => H.get rf p w a8 a11)
  rw [a3] at G3
  have G4 := hid (fun w => H.wide rf w)
  have G5 := hid (fun w => ucdScalarB16 rv w)
  rw [a4] at G5
  have q1 := a6.1
  have q2 := a6.2
  obtain ⟨m, hm⟩ : ∃ m : Int, (t : Int) % 256 = m := ⟨_, rfl⟩
  rw [hm] at q1 q2
  by_cases htwo : 255 < t
  · have e5 : (rf == 87) = true := by rw [a5]; exact decide_eq_true (by omega)
    rw [e5] at G4
    have q3 : 33 ≤ (t : Int) / 256 := by omega
    have q4 : (t : Int) / 256 ≤ 126 := by omega
    obtain ⟨q, hq⟩ : ∃ q : Int, (t : Int) / 256 = q := ⟨_, rfl⟩
    rw [hq] at q3 q4
    have htw : (255 : Int) < (t : Int) := by omega
    clear H a1 a2 a3 a4 a5 a6 a7 a8 a9 a10 a11 a12 hp hfp htwo e5
    go_enter Try.func4, Try.ntmps4
    go_upto_region 5 with (go_at_call 21; refine (HCALL.out _).mono ?_; rintro e w1 ⟨b1, o1, c1, rfl, hc1, hlt1, d1, d2, d3, hb1⟩; have HB1 := hid hb1; clear hb1)
    obtain ⟨B, hB⟩ : ∃ B, B = w1.heap.size := ⟨_, rfl⟩
    obtain ⟨W, hW⟩ : ∃ W, W = w1.alloc (.cells #[.int .i64 rf, .int .i64 (t : Int), .int .i64 rv] 35) := ⟨_, rfl⟩
    have HX0 := hid (show Box 35 [.int .i64 rf, .int .i64 (t : Int), .int .i64 rv] B W by rw [hW, hB]; exact Box.made w1 35 [.int .i64 rf, .int .i64 (t : Int), .int .i64 rv])
    have HB0 := hid (show Below w.heap.size w W by rw [hW]; exact HB1.out.alloc HB1.out.size _)
    rw [← hW, ← hB]
    have x0 := HX0.out.cell 0
    have x1 := HX0.out.cell 1
    have x2 := HX0.out.cell 2
    simp only [List.getElem?_cons_zero, List.getElem?_cons_succ] at x0 x1 x2
    clear hW hB d1 d2 d3 hlt1
    go_wp2_with (first
      | (have _u := HB5; clear _u; go_at_call 20; with_reducible refine (HW.out _).mono ?_; rintro e v6 ⟨rfl, hb6⟩; have HB6 := hid (HB5.out.trans (hb6.mono HB5.out.size)); have HX6 := hid (HX5.out.below hb6 HX5.out.lt); have x0 := HX6.out.cell 0; have x1 := HX6.out.cell 1; have x2 := HX6.out.cell 2; simp only [List.getElem?_cons_zero, List.getElem?_cons_succ] at x0 x1 x2; clear hb6)
      | (have _u := HB4; clear _u; go_at_call 22; with_reducible refine (G5.out _).mono ?_; rintro e v5 ⟨rfl, hb5⟩; have HB5 := hid (HB4.out.trans (hb5.mono HB4.out.size)); have HX5 := hid (HX4.out.below hb5 HX4.out.lt); have x0 := HX5.out.cell 0; have x1 := HX5.out.cell 1; have x2 := HX5.out.cell 2; simp only [List.getElem?_cons_zero, List.getElem?_cons_succ] at x0 x1 x2; clear hb5)
      | (have _u := HB3; clear _u; go_at_call 18; with_reducible refine (G4.out _).mono ?_; rintro e v4 ⟨rfl, hb4⟩; have HB4 := hid (HB3.out.trans (hb4.mono HB3.out.size)); have HX4 := hid (HX3.out.below hb4 HX3.out.lt); have x0 := HX4.out.cell 0; have x1 := HX4.out.cell 1; have x2 := HX4.out.cell 2; simp only [List.getElem?_cons_zero, List.getElem?_cons_succ] at x0 x1 x2; clear hb4)
      | (have _u := HB2; clear _u; go_at_call 8; with_reducible refine (G3.out _).mono ?_; rintro e v3 ⟨rfl, hb3⟩; have HB3 := hid (HB2.out.trans (hb3.mono HB2.out.size)); have HX3 := hid (HX2.out.below hb3 HX2.out.lt); have x0 := HX3.out.cell 0; have x1 := HX3.out.cell 1; have x2 := HX3.out.cell 2; simp only [List.getElem?_cons_zero, List.getElem?_cons_succ] at x0 x1 x2; clear hb3)
      | (have _u := HB1; clear _u; go_at_call 10; with_reducible refine (G2.out _).mono ?_; rintro e v2 ⟨rfl, hb2⟩; have HB2 := hid (HB1.out.trans (hb2.mono HB1.out.size)); have HX2 := hid (HX1.out.below hb2 HX1.out.lt); have x0 := HX2.out.cell 0; have x1 := HX2.out.cell 1; have x2 := HX2.out.cell 2; simp only [List.getElem?_cons_zero, List.getElem?_cons_succ] at x0 x1 x2; clear hb2)
      | (have _u := HB0; clear _u; go_at_call 8; with_reducible refine (G1.out _).mono ?_; rintro e v1 ⟨rfl, hb1⟩; have HB1 := hid (HB0.out.trans (hb1.mono HB0.out.size)); have HX1 := hid (HX0.out.below hb1 HX0.out.lt); have x0 := HX1.out.cell 0; have x1 := HX1.out.cell 1; have x2 := HX1.out.cell 2; simp only [List.getElem?_cons_zero, List.getElem?_cons_succ] at x0 x1 x2; clear hb1))
    go_ret
    exact ⟨rfl, HB6.out⟩
  · have e5 : (rf == 87) = false := by rw [a5]; exact decide_eq_false (by omega)
    rw [e5] at G4
    have htw : ¬ (255 : Int) < (t : Int) := by omega
    clear H a1 a2 a3 a4 a5 a6 a7 a8 a9 a10 a11 a12 hp hfp htwo e5
    go_enter Try.func4, Try.ntmps4
    go_upto_region 5 with (go_at_call 21; refine (HCALL.out _).mono ?_; rintro e w1 ⟨b1, o1, c1, rfl, hc1, hlt1, d1, d2, d3, hb1⟩; have HB1 := hid hb1; clear hb1)
    obtain ⟨B, hB⟩ : ∃ B, B = w1.heap.size := ⟨_, rfl⟩
    obtain ⟨W, hW⟩ : ∃ W, W = w1.alloc (.cells #[.int .i64 rf, .int .i64 (t : Int), .int .i64 rv] 35) := ⟨_, rfl⟩
    have HX0 := hid (show Box 35 [.int .i64 rf, .int .i64 (t : Int), .int .i64 rv] B W by rw [hW, hB]; exact Box.made w1 35 [.int .i64 rf, .int .i64 (t : Int), .int .i64 rv])
    have HB0 := hid (show Below w.heap.size w W by rw [hW]; exact HB1.out.alloc HB1.out.size _)
    rw [← hW, ← hB]
    have x0 := HX0.out.cell 0
    have x1 := HX0.out.cell 1
    have x2 := HX0.out.cell 2
    simp only [List.getElem?_cons_zero, List.getElem?_cons_succ] at x0 x1 x2
    clear hW hB d1 d2 d3 hlt1
    go_wp2_with (first
      | (have _u := HB5; clear _u; go_at_call 20; with_reducible refine (HW.out _).mono ?_; rintro e v6 ⟨rfl, hb6⟩; have HB6 := hid (HB5.out.trans (hb6.mono HB5.out.size)); have HX6 := hid (HX5.out.below hb6 HX5.out.lt); have x0 := HX6.out.cell 0; have x1 := HX6.out.cell 1; have x2 := HX6.out.cell 2; simp only [List.getElem?_cons_zero, List.getElem?_cons_succ] at x0 x1 x2; clear hb6)
      | (have _u := HB4; clear _u; go_at_call 22; with_reducible refine (G5.out _).mono ?_; rintro e v5 ⟨rfl, hb5⟩; have HB5 := hid (HB4.out.trans (hb5.mono HB4.out.size)); have HX5 := hid (HX4.out.below hb5 HX4.out.lt); have x0 := HX5.out.cell 0; have x1 := HX5.out.cell 1; have x2 := HX5.out.cell 2; simp only [List.getElem?_cons_zero, List.getElem?_cons_succ] at x0 x1 x2; clear hb5)
      | (have _u := HB3; clear _u; go_at_call 18; with_reducible refine (G4.out _).mono ?_; rintro e v4 ⟨rfl, hb4⟩; have HB4 := hid (HB3.out.trans (hb4.mono HB3.out.size)); have HX4 := hid (HX3.out.below hb4 HX3.out.lt); have x0 := HX4.out.cell 0; have x1 := HX4.out.cell 1; have x2 := HX4.out.cell 2; simp only [List.getElem?_cons_zero, List.getElem?_cons_succ] at x0 x1 x2; clear hb4)
      | (have _u := HB2; clear _u; go_at_call 8; with_reducible refine (G3.out _).mono ?_; rintro e v3 ⟨rfl, hb3⟩; have HB3 := hid (HB2.out.trans (hb3.mono HB2.out.size)); have HX3 := hid (HX2.out.below hb3 HX2.out.lt); have x0 := HX3.out.cell 0; have x1 := HX3.out.cell 1; have x2 := HX3.out.cell 2; simp only [List.getElem?_cons_zero, List.getElem?_cons_succ] at x0 x1 x2; clear hb3)
      | (have _u := HB1; clear _u; go_at_call 10; with_reducible refine (G2.out _).mono ?_; rintro e v2 ⟨rfl, hb2⟩; have HB2 := hid (HB1.out.trans (hb2.mono HB1.out.size)); have HX2 := hid (HX1.out.below hb2 HX1.out.lt); have x0 := HX2.out.cell 0; have x1 := HX2.out.cell 1; have x2 := HX2.out.cell 2; simp only [List.getElem?_cons_zero, List.getElem?_cons_succ] at x0 x1 x2; clear hb2)
      | (have _u := HB0; clear _u; go_at_call 8; with_reducible refine (G1.out _).mono ?_; rintro e v1 ⟨rfl, hb1⟩; have HB1 := hid (HB0.out.trans (hb1.mono HB0.out.size)); have HX1 := hid (HX0.out.below hb1 HX0.out.lt); have x0 := HX1.out.cell 0; have x1 := HX1.out.cell 1; have x2 := HX1.out.cell 2; simp only [List.getElem?_cons_zero, List.getElem?_cons_succ] at x0 x1 x2; clear hb1))
    go_ret
    exact ⟨rfl, HB6.out⟩
end Go.Proofs.Ytniooeohklblhaa

/-! LawAccents16 -/
namespace Go.Proofs.Ytniooeohklblhaa
open Go.RowKit
theorem acc_len : tabAccents.length ≤ 1000 ∧ 0 < tabAccents.length := by decide

set_option maxRecDepth 10000 in
set_option maxHeartbeats 4000000 in
theorem walkAccents16 (H : CsAll) (c at_ : Int) (w : World) (hc : inI c = true) :
    Calls Try.prog 5 #[.int .i64 c, .int .i64 at_] w fun e w' => e = .returned (.bool true) ∧ Below w.heap.size w w' := by
  have HW := hid (fun w => lawWakes16 H w)
  obtain ⟨n, hn⟩ : ∃ n, n = (tabAccents).length := ⟨_, rfl⟩
  have hn1 : n ≤ 1000 := by rw [hn]; exact acc_len.1
  have hn0 : 0 < n := by rw [hn]; exact acc_len.2
  obtain ⟨K, hK, hK1, hK2⟩ := ix_rem at_ (n : Int) (by omega) (by omega)
  obtain ⟨j, rfl⟩ : ∃ j : Nat, K = (j : Int) := ⟨K.toNat, by omega⟩
  have hj : j < n := by omega
  have wn : IntKind.u64.wrap (n : Int) = (n : Int) := by simp only [IntKind.wrap, IntKind.bits, IntKind.signed]; simp; omega
  have hne : ((n : Int) == 0) = false := by simp; omega
  have hmem : (tabAccents).getD j noRg ∈ (tabAccents) := getD_mem (by omega)
  have HCALL := hid (fun w => (apiAccents w).mono fun e w' (h : ∃ v, e = .returned v ∧ OwnG 39 w.heap.size w' v (tabAccents) ∧ Below w.heap.size w w') => (show ∃ b o c, e = .returned (.slice (some ⟨b, o, none⟩) n c) ∧ n ≤ c ∧ b < w'.heap.size ∧ w'.cell? ⟨b, o + j * 3, none⟩ = some (.int .i64 ((tabAccents).getD j noRg).f) ∧ w'.cell? ⟨b, o + j * 3 + 1, none⟩ = some (.int .i64 ((tabAccents).getD j noRg).t) ∧ w'.cell? ⟨b, o + j * 3 + 2, none⟩ = some (.int .i64 ((tabAccents).getD j noRg).v) ∧ Below w.heap.size w w' from by
    obtain ⟨v, rfl, h1, h2⟩ := h
    obtain ⟨b, o, c, rfl, hc, hcell⟩ := Sg.open1 h1.sg (by omega)
    obtain ⟨d1, d2, d3⟩ := hcell j (by omega)
    exact ⟨b, o, c, by rw [hn], by omega, World.block_lt_of_cell? w' _ d1, d1, d2, d3, h2⟩))
  obtain ⟨m1, m2, m3, m4, m5, m6⟩ := acc_row hmem
  clear hmem hn
  generalize tabAccents.getD j noRg = r at HCALL m1 m2 m3 m4 m5 m6
  obtain ⟨rf, rt, rv⟩ := r
  simp only at HCALL m1 m2 m3 m4 m5 m6
  have G1 := hid (fun w => H.mark rf w m4)
  rw [m1] at G1
  have G2 := hid (fun w => H.get 103 rf w (by decide) m4)
  rw [m2] at G2
  have G3 := hid (fun w => H.acc rv w m5)
  rw [m3] at G3
  have G4 := hid (fun w => H.acc c w hc)
  generalize (getS16 103 rf).1 = g1 at G2
  cases ha : accS c with
  | mk q rest =>
    obtain ⟨le, so⟩ := rest
    rw [ha] at G4
    cases so with
    | false =>
      obtain ⟨rfl, rfl⟩ := acc_none ha
      clear H hc m1 m2 m3 m4 m5 m6 ha
      go_enter Try.func5, Try.ntmps5
      go_upto_region 5 with (go_at_call 23; refine (HCALL.out _).mono ?_; rintro e w1 ⟨b1, o1, c1, rfl, hc1, hlt1, d1, d2, d3, hb1⟩; have HB1 := hid hb1; clear hb1)
      obtain ⟨B, hB⟩ : ∃ B, B = w1.heap.size := ⟨_, rfl⟩
      obtain ⟨W, hW⟩ : ∃ W, W = w1.alloc (.cells #[.int .i64 rf, .int .i64 rt, .int .i64 rv] 39) := ⟨_, rfl⟩
      have HX0 := hid (show Box 39 [.int .i64 rf, .int .i64 rt, .int .i64 rv] B W by rw [hW, hB]; exact Box.made w1 39 [.int .i64 rf, .int .i64 rt, .int .i64 rv])
      have HB0 := hid (show Below w.heap.size w W by rw [hW]; exact HB1.out.alloc HB1.out.size _)
      rw [← hW, ← hB]
      have x0 := HX0.out.cell 0
      have x1 := HX0.out.cell 1
      have x2 := HX0.out.cell 2
      simp only [List.getElem?_cons_zero, List.getElem?_cons_succ] at x0 x1 x2
      clear hW hB d1 d2 d3 hlt1
      go_wp2_with (first
        | (have _u := HB4; clear _u; go_at_call 20; with_reducible refine (HW.out _).mono ?_; rintro e v5 ⟨rfl, hb5⟩; have HB5 := hid (HB4.out.trans (hb5.mono HB4.out.size)); have HX5 := hid (HX4.out.below hb5 HX4.out.lt); have x0 := HX5.out.cell 0; have x1 := HX5.out.cell 1; have x2 := HX5.out.cell 2; simp only [List.getElem?_cons_zero, List.getElem?_cons_succ] at x0 x1 x2; clear hb5)
        | (have _u := HB3; clear _u; go_at_call 16; with_reducible refine (G4.out _).mono ?_; rintro e v4 ⟨rfl, hb4⟩; have HB4 := hid (HB3.out.trans (hb4.mono HB3.out.size)); have HX4 := hid (HX3.out.below hb4 HX3.out.lt); have x0 := HX4.out.cell 0; have x1 := HX4.out.cell 1; have x2 := HX4.out.cell 2; simp only [List.getElem?_cons_zero, List.getElem?_cons_succ] at x0 x1 x2; clear hb4)
        | (have _u := HB2; clear _u; go_at_call 16; with_reducible refine (G3.out _).mono ?_; rintro e v3 ⟨rfl, hb3⟩; have HB3 := hid (HB2.out.trans (hb3.mono HB2.out.size)); have HX3 := hid (HX2.out.below hb3 HX2.out.lt); have x0 := HX3.out.cell 0; have x1 := HX3.out.cell 1; have x2 := HX3.out.cell 2; simp only [List.getElem?_cons_zero, List.getElem?_cons_succ] at x0 x1 x2; clear hb3)
        | (have _u := HB1; clear _u; go_at_call 8; with_reducible refine (G2.out _).mono ?_; rintro e v2 ⟨rfl, hb2⟩; have HB2 := hid (HB1.out.trans (hb2.mono HB1.out.size)); have HX2 := hid (HX1.out.below hb2 HX1.out.lt); have x0 := HX2.out.cell 0; have x1 := HX2.out.cell 1; have x2 := HX2.out.cell 2; simp only [List.getElem?_cons_zero, List.getElem?_cons_succ] at x0 x1 x2; clear hb2)
        | (have _u := HB0; clear _u; go_at_call 14; with_reducible refine (G1.out _).mono ?_; rintro e v1 ⟨rfl, hb1⟩; have HB1 := hid (HB0.out.trans (hb1.mono HB0.out.size)); have HX1 := hid (HX0.out.below hb1 HX0.out.lt); have x0 := HX1.out.cell 0; have x1 := HX1.out.cell 1; have x2 := HX1.out.cell 2; simp only [List.getElem?_cons_zero, List.getElem?_cons_succ] at x0 x1 x2; clear hb1))
      go_ret
      exact ⟨rfl, HB5.out⟩
    | true =>
      obtain ⟨mk, lone, h1, h2, h3, h4⟩ := acc_facts ha
      have G5 := hid (fun w => H.mark q w h2)
      rw [h1] at G5
      rcases h4 with ⟨rfl, rfl⟩ | ⟨h4, h5, h6, h7⟩
      · clear H hc m1 m2 m3 m4 m5 m6 ha h1 h2 h3
        go_enter Try.func5, Try.ntmps5
        go_upto_region 5 with (go_at_call 23; refine (HCALL.out _).mono ?_; rintro e w1 ⟨b1, o1, c1, rfl, hc1, hlt1, d1, d2, d3, hb1⟩; have HB1 := hid hb1; clear hb1)
        obtain ⟨B, hB⟩ : ∃ B, B = w1.heap.size := ⟨_, rfl⟩
        obtain ⟨W, hW⟩ : ∃ W, W = w1.alloc (.cells #[.int .i64 rf, .int .i64 rt, .int .i64 rv] 39) := ⟨_, rfl⟩
        have HX0 := hid (show Box 39 [.int .i64 rf, .int .i64 rt, .int .i64 rv] B W by rw [hW, hB]; exact Box.made w1 39 [.int .i64 rf, .int .i64 rt, .int .i64 rv])
        have HB0 := hid (show Below w.heap.size w W by rw [hW]; exact HB1.out.alloc HB1.out.size _)
        rw [← hW, ← hB]
        have x0 := HX0.out.cell 0
        have x1 := HX0.out.cell 1
        have x2 := HX0.out.cell 2
        simp only [List.getElem?_cons_zero, List.getElem?_cons_succ] at x0 x1 x2
        clear hW hB d1 d2 d3 hlt1
        go_wp2_with (first
          | (have _u := HB5; clear _u; go_at_call 20; with_reducible refine (HW.out _).mono ?_; rintro e v6 ⟨rfl, hb6⟩; have HB6 := hid (HB5.out.trans (hb6.mono HB5.out.size)); have HX6 := hid (HX5.out.below hb6 HX5.out.lt); have x0 := HX6.out.cell 0; have x1 := HX6.out.cell 1; have x2 := HX6.out.cell 2; simp only [List.getElem?_cons_zero, List.getElem?_cons_succ] at x0 x1 x2; clear hb6)
          | (have _u := HB4; clear _u; go_at_call 14; with_reducible refine (G5.out _).mono ?_; rintro e v5 ⟨rfl, hb5⟩; have HB5 := hid (HB4.out.trans (hb5.mono HB4.out.size)); have HX5 := hid (HX4.out.below hb5 HX4.out.lt); have x0 := HX5.out.cell 0; have x1 := HX5.out.cell 1; have x2 := HX5.out.cell 2; simp only [List.getElem?_cons_zero, List.getElem?_cons_succ] at x0 x1 x2; clear hb5)
          | (have _u := HB3; clear _u; go_at_call 16; with_reducible refine (G4.out _).mono ?_; rintro e v4 ⟨rfl, hb4⟩; have HB4 := hid (HB3.out.trans (hb4.mono HB3.out.size)); have HX4 := hid (HX3.out.below hb4 HX3.out.lt); have x0 := HX4.out.cell 0; have x1 := HX4.out.cell 1; have x2 := HX4.out.cell 2; simp only [List.getElem?_cons_zero, List.getElem?_cons_succ] at x0 x1 x2; clear hb4)
          | (have _u := HB2; clear _u; go_at_call 16; with_reducible refine (G3.out _).mono ?_; rintro e v3 ⟨rfl, hb3⟩; have HB3 := hid (HB2.out.trans (hb3.mono HB2.out.size)); have HX3 := hid (HX2.out.below hb3 HX2.out.lt); have x0 := HX3.out.cell 0; have x1 := HX3.out.cell 1; have x2 := HX3.out.cell 2; simp only [List.getElem?_cons_zero, List.getElem?_cons_succ] at x0 x1 x2; clear hb3)
          | (have _u := HB1; clear _u; go_at_call 8; with_reducible refine (G2.out _).mono ?_; rintro e v2 ⟨rfl, hb2⟩; have HB2 := hid (HB1.out.trans (hb2.mono HB1.out.size)); have HX2 := hid (HX1.out.below hb2 HX1.out.lt); have x0 := HX2.out.cell 0; have x1 := HX2.out.cell 1; have x2 := HX2.out.cell 2; simp only [List.getElem?_cons_zero, List.getElem?_cons_succ] at x0 x1 x2; clear hb2)
          | (have _u := HB0; clear _u; go_at_call 14; with_reducible refine (G1.out _).mono ?_; rintro e v1 ⟨rfl, hb1⟩; have HB1 := hid (HB0.out.trans (hb1.mono HB0.out.size)); have HX1 := hid (HX0.out.below hb1 HX0.out.lt); have x0 := HX1.out.cell 0; have x1 := HX1.out.cell 1; have x2 := HX1.out.cell 2; simp only [List.getElem?_cons_zero, List.getElem?_cons_succ] at x0 x1 x2; clear hb1))
        go_ret
        exact ⟨rfl, HB6.out⟩
      · have G6 := hid (fun w => ucdPair le mk w)
        rw [h5] at G6
        have hr := of_decide_eq_true h6
        have n32 : (le == 32) = false := by simp; omega
        by_cases hlow : le ≤ 90
        · have r1 : 65 ≤ le := by omega
          clear H hc m1 m2 m3 m4 m5 m6 ha h1 h2 h3 h4 h5 h6 h7 hr
          go_enter Try.func5, Try.ntmps5
          go_upto_region 5 with (go_at_call 23; refine (HCALL.out _).mono ?_; rintro e w1 ⟨b1, o1, c1, rfl, hc1, hlt1, d1, d2, d3, hb1⟩; have HB1 := hid hb1; clear hb1)
          obtain ⟨B, hB⟩ : ∃ B, B = w1.heap.size := ⟨_, rfl⟩
          obtain ⟨W, hW⟩ : ∃ W, W = w1.alloc (.cells #[.int .i64 rf, .int .i64 rt, .int .i64 rv] 39) := ⟨_, rfl⟩
          have HX0 := hid (show Box 39 [.int .i64 rf, .int .i64 rt, .int .i64 rv] B W by rw [hW, hB]; exact Box.made w1 39 [.int .i64 rf, .int .i64 rt, .int .i64 rv])
          have HB0 := hid (show Below w.heap.size w W by rw [hW]; exact HB1.out.alloc HB1.out.size _)
          rw [← hW, ← hB]
          have x0 := HX0.out.cell 0
          have x1 := HX0.out.cell 1
          have x2 := HX0.out.cell 2
          simp only [List.getElem?_cons_zero, List.getElem?_cons_succ] at x0 x1 x2
          clear hW hB d1 d2 d3 hlt1
          go_wp2_with (first
            | (have _u := HB6; clear _u; go_at_call 20; with_reducible refine (HW.out _).mono ?_; rintro e v7 ⟨rfl, hb7⟩; have HB7 := hid (HB6.out.trans (hb7.mono HB6.out.size)); have HX7 := hid (HX6.out.below hb7 HX6.out.lt); have x0 := HX7.out.cell 0; have x1 := HX7.out.cell 1; have x2 := HX7.out.cell 2; simp only [List.getElem?_cons_zero, List.getElem?_cons_succ] at x0 x1 x2; clear hb7)
            | (have _u := HB5; clear _u; go_at_call 24; with_reducible refine (G6.out _).mono ?_; rintro e v6 ⟨rfl, hb6⟩; have HB6 := hid (HB5.out.trans (hb6.mono HB5.out.size)); have HX6 := hid (HX5.out.below hb6 HX5.out.lt); have x0 := HX6.out.cell 0; have x1 := HX6.out.cell 1; have x2 := HX6.out.cell 2; simp only [List.getElem?_cons_zero, List.getElem?_cons_succ] at x0 x1 x2; clear hb6)
            | (have _u := HB4; clear _u; go_at_call 14; with_reducible refine (G5.out _).mono ?_; rintro e v5 ⟨rfl, hb5⟩; have HB5 := hid (HB4.out.trans (hb5.mono HB4.out.size)); have HX5 := hid (HX4.out.below hb5 HX4.out.lt); have x0 := HX5.out.cell 0; have x1 := HX5.out.cell 1; have x2 := HX5.out.cell 2; simp only [List.getElem?_cons_zero, List.getElem?_cons_succ] at x0 x1 x2; clear hb5)
            | (have _u := HB3; clear _u; go_at_call 16; with_reducible refine (G4.out _).mono ?_; rintro e v4 ⟨rfl, hb4⟩; have HB4 := hid (HB3.out.trans (hb4.mono HB3.out.size)); have HX4 := hid (HX3.out.below hb4 HX3.out.lt); have x0 := HX4.out.cell 0; have x1 := HX4.out.cell 1; have x2 := HX4.out.cell 2; simp only [List.getElem?_cons_zero, List.getElem?_cons_succ] at x0 x1 x2; clear hb4)
            | (have _u := HB2; clear _u; go_at_call 16; with_reducible refine (G3.out _).mono ?_; rintro e v3 ⟨rfl, hb3⟩; have HB3 := hid (HB2.out.trans (hb3.mono HB2.out.size)); have HX3 := hid (HX2.out.below hb3 HX2.out.lt); have x0 := HX3.out.cell 0; have x1 := HX3.out.cell 1; have x2 := HX3.out.cell 2; simp only [List.getElem?_cons_zero, List.getElem?_cons_succ] at x0 x1 x2; clear hb3)
            | (have _u := HB1; clear _u; go_at_call 8; with_reducible refine (G2.out _).mono ?_; rintro e v2 ⟨rfl, hb2⟩; have HB2 := hid (HB1.out.trans (hb2.mono HB1.out.size)); have HX2 := hid (HX1.out.below hb2 HX1.out.lt); have x0 := HX2.out.cell 0; have x1 := HX2.out.cell 1; have x2 := HX2.out.cell 2; simp only [List.getElem?_cons_zero, List.getElem?_cons_succ] at x0 x1 x2; clear hb2)
            | (have _u := HB0; clear _u; go_at_call 14; with_reducible refine (G1.out _).mono ?_; rintro e v1 ⟨rfl, hb1⟩; have HB1 := hid (HB0.out.trans (hb1.mono HB0.out.size)); have HX1 := hid (HX0.out.below hb1 HX0.out.lt); have x0 := HX1.out.cell 0; have x1 := HX1.out.cell 1; have x2 := HX1.out.cell 2; simp only [List.getElem?_cons_zero, List.getElem?_cons_succ] at x0 x1 x2; clear hb1))
          go_ret
          exact ⟨rfl, HB7.out⟩
        · have r1 : 65 ≤ le := by omega
          have r2 : 97 ≤ le := by omega
          have r3 : le ≤ 122 := by omega
          clear H hc m1 m2 m3 m4 m5 m6 ha h1 h2 h3 h4 h5 h6 h7 hr
          go_enter Try.func5, Try.ntmps5
          go_upto_region 5 with (go_at_call 23; refine (HCALL.out _).mono ?_; rintro e w1 ⟨b1, o1, c1, rfl, hc1, hlt1, d1, d2, d3, hb1⟩; have HB1 := hid hb1; clear hb1)
          obtain ⟨B, hB⟩ : ∃ B, B = w1.heap.size := ⟨_, rfl⟩
          obtain ⟨W, hW⟩ : ∃ W, W = w1.alloc (.cells #[.int .i64 rf, .int .i64 rt, .int .i64 rv] 39) := ⟨_, rfl⟩
          have HX0 := hid (show Box 39 [.int .i64 rf, .int .i64 rt, .int .i64 rv] B W by rw [hW, hB]; exact Box.made w1 39 [.int .i64 rf, .int .i64 rt, .int .i64 rv])
          have HB0 := hid (show Below w.heap.size w W by rw [hW]; exact HB1.out.alloc HB1.out.size _)
          rw [← hW, ← hB]
          have x0 := HX0.out.cell 0
          have x1 := HX0.out.cell 1
          have x2 := HX0.out.cell 2
          simp only [List.getElem?_cons_zero, List.getElem?_cons_succ] at x0 x1 x2
          clear hW hB d1 d2 d3 hlt1
          go_wp2_with (first
            | (have _u := HB6; clear _u; go_at_call 20; with_reducible refine (HW.out _).mono ?_; rintro e v7 ⟨rfl, hb7⟩; have HB7 := hid (HB6.out.trans (hb7.mono HB6.out.size)); have HX7 := hid (HX6.out.below hb7 HX6.out.lt); have x0 := HX7.out.cell 0; have x1 := HX7.out.cell 1; have x2 := HX7.out.cell 2; simp only [List.getElem?_cons_zero, List.getElem?_cons_succ] at x0 x1 x2; clear hb7)
            | (have _u := HB5; clear _u; go_at_call 24; with_reducible refine (G6.out _).mono ?_; rintro e v6 ⟨rfl, hb6⟩; have HB6 := hid (HB5.out.trans (hb6.mono HB5.out.size)); have HX6 := hid (HX5.out.below hb6 HX5.out.lt); have x0 := HX6.out.cell 0; have x1 := HX6.out.cell 1; have x2 := HX6.out.cell 2; simp only [List.getElem?_cons_zero, List.getElem?_cons_succ] at x0 x1 x2; clear hb6)
            | (have _u := HB4; clear _u; go_at_call 14; with_reducible refine (G5.out _).mono ?_; rintro e v5 ⟨rfl, hb5⟩; have HB5 := hid (HB4.out.trans (hb5.mono HB4.out.size)); have HX5 := hid (HX4.out.below hb5 HX4.out.lt); have x0 := HX5.out.cell 0; have x1 := HX5.out.cell 1; have x2 := HX5.out.cell 2; simp only [List.getElem?_cons_zero, List.getElem?_cons_succ] at x0 x1 x2; clear hb5)
            | (have _u := HB3; clear _u; go_at_call 16; with_reducible refine (G4.out _).mono ?_; rintro e v4 ⟨rfl, hb4⟩; have HB4 := hid (HB3.out.trans (hb4.mono HB3.out.size)); have HX4 := hid (HX3.out.below hb4 HX3.out.lt); have x0 := HX4.out.cell 0; have x1 := HX4.out.cell 1; have x2 := HX4.out.cell 2; simp only [List.getElem?_cons_zero, List.getElem?_cons_succ] at x0 x1 x2; clear hb4)
            | (have _u := HB2; clear _u; go_at_call 16; with_reducible refine (G3.out _).mono ?_; rintro e v3 ⟨rfl, hb3⟩; have HB3 := hid (HB2.out.trans (hb3.mono HB2.out.size)); have HX3 := hid (HX2.out.below hb3 HX2.out.lt); have x0 := HX3.out.cell 0; have x1 := HX3.out.cell 1; have x2 := HX3.out.cell 2; simp only [List.getElem?_cons_zero, List.getElem?_cons_succ] at x0 x1 x2; clear hb3)
            | (have _u := HB1; clear _u; go_at_call 8; with_reducible refine (G2.out _).mono ?_; rintro e v2 ⟨rfl, hb2⟩; have HB2 := hid (HB1.out.trans (hb2.mono HB1.out.size)); have HX2 := hid (HX1.out.below hb2 HX1.out.lt); have x0 := HX2.out.cell 0; have x1 := HX2.out.cell 1; have x2 := HX2.out.cell 2; simp only [List.getElem?_cons_zero, List.getElem?_cons_succ] at x0 x1 x2; clear hb2)
            | (have _u := HB0; clear _u; go_at_call 14; with_reducible refine (G1.out _).mono ?_; rintro e v1 ⟨rfl, hb1⟩; have HB1 := hid (HB0.out.trans (hb1.mono HB0.out.size)); have HX1 := hid (HX0.out.below hb1 HX0.out.lt); have x0 := HX1.out.cell 0; have x1 := HX1.out.cell 1; have x2 := HX1.out.cell 2; simp only [List.getElem?_cons_zero, List.getElem?_cons_succ] at x0 x1 x2; clear hb1))
          go_ret
          exact ⟨rfl, HB7.out⟩
end Go.Proofs.Ytniooeohklblhaa

/-! LawFinals16 -/
namespace Go.Proofs.Ytniooeohklblhaa
open Go.RowKit
theorem Sl.open7 {w : World} {v : Value} (h : Sl .i64 w v (tabSets ++ [103])) : ∃ b o c, v = .slice (some ⟨b, o, none⟩) 7 c ∧ 7 ≤ c ∧ ∀ i, i < 7 → w.cell? ⟨b, o + i, none⟩ = some (.int .i64 ((tabSets ++ [103]).getD i 0)) := by
  obtain ⟨a, c, rfl, h1, -, h⟩ := h
  have e : (tabSets ++ [(103 : Int)]).length = 7 := rfl
  rw [e] at h1 h ⊢
  rcases h with h | ⟨b, o, rfl, -, hc⟩
  · omega
  · exact ⟨b, o, c, rfl, h1, hc⟩
theorem apiFinalB (s : Int) (w : World) : Calls Try.prog 26 #[.int .i64 s] w fun e w' => e = .returned (.int .i64 (finalS s)) ∧ Below w.heap.size w w' := (apiFinal s w).mono fun e w' h => by
  obtain ⟨h1, rfl⟩ := h
  exact ⟨h1, Below.refl _ _⟩

set_option maxRecDepth 10000 in
set_option maxHeartbeats 4000000 in
theorem walkFinals16 (H : CsAll) (at_ b : Int) (w : World) (hb : inI b = true) :
    Calls Try.prog 6 #[.int .i64 at_, .int .i64 b] w fun e w' => e = .returned (.bool true) ∧ Below w.heap.size w w' := by
  have HW := hid (fun w => lawWakes16 H w)
  obtain ⟨K, hK, hK1, hK2⟩ := ix_rem at_ 7 (by omega) (by omega)
  obtain ⟨j, rfl⟩ : ∃ j : Nat, K = (j : Int) := ⟨K.toNat, by omega⟩
  have hj : j < 7 := by omega
  obtain ⟨s, hs⟩ : ∃ s, (tabSets ++ [103]).getD j 0 = s := ⟨_, rfl⟩
  have HS := hid hs
  have hmem : s ∈ tabSets ++ [(103 : Int)] := by rw [← hs, List.getD_eq_getElem?_getD, List.getElem?_eq_getElem (show j < (tabSets ++ [(103 : Int)]).length from hj)]; exact List.getElem_mem _
  have hall := List.all_eq_true.1 fin_ok _ hmem
  unfold finOk at hall
  simp only [Bool.and_eq_true, decide_eq_true_eq] at hall
  obtain ⟨hf, hr⟩ := hall
  have G1 := hid (fun w => apiFinalB s w)
  have G2 := hid (fun w => H.wide s w)
  have G3 := hid (fun w => H.fin (finalS s) (s == 87) w (inI_of (by omega)))
  rw [hf] at G3
  have r1 := hr.1
  have r2 := hr.2
  generalize finalS s = f at G1 G3 r1 r2
  generalize (s == (87 : Int)) = wd at G2 G3
  have G4 := hid (fun w => H.fin 0 false w (by decide))
  rw [fin_zero] at G4
  generalize (byFinS 0 false).1 = z4 at G4
  have G5 := hid (fun w => H.fin b false w hb)
  cases hu : byFinS b false with
  | mk u is =>
    rw [hu] at G5
    cases is with
    | false =>
      clear H hb hs hmem hf hr hu
      go_enter Try.func6, Try.ntmps6
      go_wp2_with (first
        | (have _u := HB7; clear _u; go_at_call 20; with_reducible refine (HW.out _).mono ?_; rintro e v8 ⟨rfl, hb8⟩; have HB8 := hid (HB7.out.trans (hb8.mono HB7.out.size)); clear hb8)
        | (have _u := HB6; clear _u; go_at_call 12; with_reducible refine (G5.out _).mono ?_; rintro e v7 ⟨rfl, hb7⟩; have HB7 := hid (HB6.out.trans (hb7.mono HB6.out.size)); clear hb7)
        | (have _u := HB5; clear _u; go_at_call 12; with_reducible refine (G4.out _).mono ?_; rintro e v6 ⟨rfl, hb6⟩; have HB6 := hid (HB5.out.trans (hb6.mono HB5.out.size)); clear hb6)
        | (have _u := HB4; clear _u; go_at_call 12; with_reducible refine (G3.out _).mono ?_; rintro e v5 ⟨rfl, hb5⟩; have HB5 := hid (HB4.out.trans (hb5.mono HB4.out.size)); clear hb5)
        | (have _u := HB3; clear _u; go_at_call 18; with_reducible refine (G2.out _).mono ?_; rintro e v4 ⟨rfl, hb4⟩; have HB4 := hid (HB3.out.trans (hb4.mono HB3.out.size)); clear hb4)
        | (have _u := HB2; clear _u; go_at_call 26; with_reducible refine (G1.out _).mono ?_; rintro e v3 ⟨rfl, hb3⟩; have HB3 := hid (HB2.out.trans (hb3.mono HB2.out.size)); clear hb3)
        | (have _u := HB1; clear _u; at_builtin; go_loud (refine wpList_app _ rfl _ _ 41 rfl .i64 w.heap.size 3 8 Try.underlying41 Try.infoI64 _ tabSets [103] rfl (HO1.out.alloc _) _ rfl (one_sl (by first | simp | rfl)) (by unfold maxLen; decide) (by decide) (by have := HB1.out.size; simp; omega) ?_); intro v2 w2 ho2 hg2 hb2 hn2; clear hg2 hn2; obtain ⟨b2, o2, c2, rfl, hc2, hcell⟩ := Sl.open7 ho2.sl; have d1 := hcell j hj; rw [HS.out] at d1; have HB2 := hid ((HB1.out.alloc HB1.out.size _).trans hb2); clear hb2 ho2 hcell)
        | (go_at_call 25; refine (apiSets _).mono ?_; rintro e w1 ⟨v1, rfl, ho1, hb1⟩; have HO1 := hid ho1; have HB1 := hid hb1; clear ho1 hb1))
      go_ret
      exact ⟨rfl, HB8.out⟩
    | true =>
      obtain ⟨e1, e2⟩ := fin_back hu
      have G6 := hid (fun w => apiFinalB u w)
      rw [e1] at G6
      have G7 := hid (fun w => H.wide u w)
      rw [e2] at G7
      clear H hb hs hmem hf hr hu e1 e2
      go_enter Try.func6, Try.ntmps6
      go_wp2_with (first
        | (have _u := HB9; clear _u; go_at_call 20; with_reducible refine (HW.out _).mono ?_; rintro e v10 ⟨rfl, hb10⟩; have HB10 := hid (HB9.out.trans (hb10.mono HB9.out.size)); clear hb10)
        | (have _u := HB8; clear _u; go_at_call 18; with_reducible refine (G7.out _).mono ?_; rintro e v9 ⟨rfl, hb9⟩; have HB9 := hid (HB8.out.trans (hb9.mono HB8.out.size)); clear hb9)
        | (have _u := HB7; clear _u; go_at_call 26; with_reducible refine (G6.out _).mono ?_; rintro e v8 ⟨rfl, hb8⟩; have HB8 := hid (HB7.out.trans (hb8.mono HB7.out.size)); clear hb8)
        | (have _u := HB6; clear _u; go_at_call 12; with_reducible refine (G5.out _).mono ?_; rintro e v7 ⟨rfl, hb7⟩; have HB7 := hid (HB6.out.trans (hb7.mono HB6.out.size)); clear hb7)
        | (have _u := HB5; clear _u; go_at_call 12; with_reducible refine (G4.out _).mono ?_; rintro e v6 ⟨rfl, hb6⟩; have HB6 := hid (HB5.out.trans (hb6.mono HB5.out.size)); clear hb6)
        | (have _u := HB4; clear _u; go_at_call 12; with_reducible refine (G3.out _).mono ?_; rintro e v5 ⟨rfl, hb5⟩; have HB5 := hid (HB4.out.trans (hb5.mono HB4.out.size)); clear hb5)
        | (have _u := HB3; clear _u; go_at_call 18; with_reducible refine (G2.out _).mono ?_; rintro e v4 ⟨rfl, hb4⟩; have HB4 := hid (HB3.out.trans (hb4.mono HB3.out.size)); clear hb4)
        | (have _u := HB2; clear _u; go_at_call 26; with_reducible refine (G1.out _).mono ?_; rintro e v3 ⟨rfl, hb3⟩; have HB3 := hid (HB2.out.trans (hb3.mono HB2.out.size)); clear hb3)
        | (have _u := HB1; clear _u; at_builtin; go_loud (refine wpList_app _ rfl _ _ 41 rfl .i64 w.heap.size 3 8 Try.underlying41 Try.infoI64 _ tabSets [103] rfl (HO1.out.alloc _) _ rfl (one_sl (by first | simp | rfl)) (by unfold maxLen; decide) (by decide) (by have := HB1.out.size; simp; omega) ?_); intro v2 w2 ho2 hg2 hb2 hn2; clear hg2 hn2; obtain ⟨b2, o2, c2, rfl, hc2, hcell⟩ := Sl.open7 ho2.sl; have d1 := hcell j hj; rw [HS.out] at d1; have HB2 := hid ((HB1.out.alloc HB1.out.size _).trans hb2); clear hb2 ho2 hcell)
        | (go_at_call 25; refine (apiSets _).mono ?_; rintro e w1 ⟨v1, rfl, ho1, hb1⟩; have HO1 := hid ho1; have HB1 := hid hb1; clear ho1 hb1))
      go_ret
      exact ⟨rfl, HB10.out⟩
end Go.Proofs.Ytniooeohklblhaa
