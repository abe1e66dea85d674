/- Several texts in one: LawMarks12. -/
import Derived.Test.YtdncmdpacidgmaaPk31
import Derived.Test.YtdncmdpacidgmaaPk35
import Derived.Test.YtdncmdpacidgmaaPk5
import Derived.Deep.RegionHeld3
/-! LawMarks12 -/
namespace Go.Proofs.Ytdncmdpacidgmaa
open Go.RowKit

theorem Sl.alloc {k : IntKind} {w : World} {v : Value} {xs : List Int} (h : Sl k w v xs) (o : Obj) : Sl k (w.alloc o) v xs := h.below ((Below.refl _ _).alloc (Nat.le_refl _) _)
theorem lit_below {k : IntKind} {w w' : World} {xs : List Int} {e : TypeId} {n len : Nat} {cs : Array Value} (hb : Below (w.alloc (.cells cs e)).heap.size (w.alloc (.cells cs e)) w') (hn : n = w.heap.size) (hc : cs = (xs.map (Value.int k)).toArray) (hl : len = xs.length) (hm : xs.length ≤ 1000000) : Sl k w' (.slice (some ⟨n, 0, none⟩) len len) xs := (lit_sl hn hc hl hm).below hb
theorem lit_below2 {k : IntKind} {w w' : World} {xs : List Int} {e : TypeId} {n len : Nat} {cs : Array Value} {o : Obj} (hb : Below ((w.alloc (.cells cs e)).alloc o).heap.size ((w.alloc (.cells cs e)).alloc o) w') (hn : n = w.heap.size) (hc : cs = (xs.map (Value.int k)).toArray) (hl : len = xs.length) (hm : xs.length ≤ 1000000) : Sl k w' (.slice (some ⟨n, 0, none⟩) len len) xs := ((lit_sl hn hc hl hm).below ((Below.refl _ _).alloc (Nat.le_refl _) o)).below hb
theorem via0 {n : Nat} {w a b : World} (h : Below n w a) (hn : n ≤ a.heap.size) (k : Below a.heap.size a b) : Below n w b := h.trans (k.mono hn)
theorem via1 {n : Nat} {w a b : World} {o : Obj} (h : Below n w a) (hn : n ≤ a.heap.size) (k : Below (a.alloc o).heap.size (a.alloc o) b) : Below n w b := (h.alloc hn o).trans (k.mono (by rw [World.size_alloc]; omega))
theorem via2 {n : Nat} {w a b : World} {o p : Obj} (h : Below n w a) (hn : n ≤ a.heap.size) (k : Below ((a.alloc o).alloc p).heap.size ((a.alloc o).alloc p) b) : Below n w b := via1 (h.alloc hn o) (by rw [World.size_alloc]; omega) k

theorem via3 {n : Nat} {w a b : World} {o : Obj} (h : Below n w a) (hn : n ≤ a.heap.size) (k : Below (a.alloc o).drew.heap.size (a.alloc o).drew b) : Below n w b := ((h.alloc hn o).drew).trans (k.mono (by show n ≤ (a.alloc o).heap.size; rw [World.size_alloc]; omega))
theorem undrew12 {a b : World} (k : Below a.drew.heap.size a.drew b) : Below a.heap.size a b := ((Below.refl a.heap.size a).drew).trans k

set_option maxRecDepth 10000 in
set_option maxHeartbeats 4000000 in
theorem walkMarks12 (HO : FOneOk) (HA : FAllOk) (HF : NFormOk) (a b : Int) (w : World) (ha : inI a = true) (hb : inI b = true) :
    Calls Try.prog 6 #[.int .i64 a, .int .i64 b] w fun e w' => e = .returned (.bool true) ∧ Below w.heap.size w w' := by
  have HW := hid (fun w => lawWakes12 HO HA w)
  have HP := hid (fun w => ucdPair a b w)
  cases hp : (pairS a b).2 with
  | false =>
    rw [hp] at HP
    generalize (pairS a b).1 = c at HP
    clear HO HA HF ha hb hp
    go_enter Try.func6, Try.ntmps6
    go_wp2_with (first
      | (go_at_call 16; refine (HP.out _).mono ?_; rintro e w1 ⟨rfl, hb1⟩; have HB1 := hid hb1; clear hb1)
      | (go_at_call 14; refine (HW.out _).mono ?_; rintro e w2 ⟨rfl, hb2⟩; have HB2 := hid (HB1.out.trans (hb2.mono HB1.out.size)); clear hb2))
    go_ret
    exact ⟨rfl, HB2.out⟩
  | true =>
    have hci := scalar_inI (pair_facts hp).2.2.2.1
    have G1 := hid (fun w => HO a w ha)
    have G2 := hid (fun w => HO (pairS a b).1 w hci)
    have hxi := fold_inI ha
    have hyi := fold_inI hci
    have hyl := fold_len (pairS a b).1
    have hFM := fun x (h1 : foldS a = [x]) (h2 : x ≠ a) (h3 : (pairS x b).2 = true) => fold_mark hp h1 h2 h3
    rw [hp] at HP
    generalize (pairS a b).1 = c at HP G2 hci hyi hyl hFM
    generalize foldS c = Y at G2 hyi hyl hFM
    generalize foldS a = X at G1 hxi hFM
    by_cases hx1 : ∃ x, X = [x]
    · obtain ⟨x, rfl⟩ := hx1
      have hxx : inI x = true := by simpa using hxi
      by_cases hxa : x = a
      · have e1 : (x == a) = true := by simpa using hxa
        clear hxa HO HA HF ha hb hp hFM hxi hyi hyl hci hxx
        go_enter Try.func6, Try.ntmps6
        go_wp2_with (first
          | (have _u := HB3; clear _u; go_at_call 14; refine (HW.out _).mono ?_; rintro e w4 ⟨rfl, hb4⟩; have HB4 := hid (HB3.out.trans (hb4.mono HB3.out.size)); clear hb4)
          | (have _u := HB2; clear _u; go_at_call 10; with_reducible refine (G2.out _).mono ?_; rintro e w3 ⟨v3, rfl, ho3, hb3⟩; obtain ⟨bx, ox, cx, rfl, x0⟩ := (SX.out.below hb3).one; have SY := hid ho3; have HB3 := hid (HB2.out.trans (hb3.mono HB2.out.size)); clear hb3 ho3)
          | (have _u := HB1; clear _u; go_at_call 10; with_reducible refine (G1.out _).mono ?_; rintro e w2 ⟨v2, rfl, ho2, hb2⟩; have SX := hid ho2; have HB2 := hid (HB1.out.trans (hb2.mono HB1.out.size)); clear hb2 ho2)
          | (go_at_call 16; refine (HP.out _).mono ?_; rintro e w1 ⟨rfl, hb1⟩; have HB1 := hid hb1; clear hb1))
        go_ret
        exact ⟨rfl, HB4.out⟩
      · have e1 : (x == a) = false := by simpa using hxa
        have HP2 := hid (fun w => ucdPair x b w)
        have hFM2 := hFM x rfl hxa
        cases hq : (pairS x b).2 with
        | false =>
          rw [hq] at HP2
          generalize (pairS x b).1 = d at HP2
          clear hxa HO HA HF ha hb hp hFM hFM2 hxi hyi hyl hci hxx hq
          go_enter Try.func6, Try.ntmps6
          go_wp2_with (first
            | (have _u := HB4; clear _u; go_at_call 14; refine (HW.out _).mono ?_; rintro e w5 ⟨rfl, hb5⟩; have HB5 := hid (HB4.out.trans (hb5.mono HB4.out.size)); clear hb5)
            | (have _u := HB3; clear _u; go_at_call 16; refine (HP2.out _).mono ?_; rintro e w4 ⟨rfl, hb4⟩; have SY4 := hid (SY.out.below hb4); have x4 := (hb4.cell (World.block_lt_of_cell? w3 _ x0)).trans x0; have HB4 := hid (HB3.out.trans (hb4.mono HB3.out.size)); clear hb4 x0)
            | (have _u := HB2; clear _u; go_at_call 10; with_reducible refine (G2.out _).mono ?_; rintro e w3 ⟨v3, rfl, ho3, hb3⟩; obtain ⟨bx, ox, cx, rfl, x0⟩ := (SX.out.below hb3).one; have SY := hid ho3; have HB3 := hid (HB2.out.trans (hb3.mono HB2.out.size)); clear hb3 ho3)
            | (have _u := HB1; clear _u; go_at_call 10; with_reducible refine (G1.out _).mono ?_; rintro e w2 ⟨v2, rfl, ho2, hb2⟩; have SX := hid ho2; have HB2 := hid (HB1.out.trans (hb2.mono HB1.out.size)); clear hb2 ho2)
            | (go_at_call 16; refine (HP.out _).mono ?_; rintro e w1 ⟨rfl, hb1⟩; have HB1 := hid hb1; clear hb1))
          go_ret
          exact ⟨rfl, HB5.out⟩
        | true =>
          have hF := hFM2 hq
          have hdi := scalar_inI (pair_facts hq).2.2.2.1
          have hdf := pair_form hq
          rw [hq] at HP2
          generalize (pairS x b).1 = d at HP2 hdi hdf
          have HY := hid (fun v w h => HF false v Y w h (fits_small hyi (by omega)))
          have HL := hid (fun v w h => HF false v [x, b] w h (fits_small (by simp [hxx, hb]) (by simp)))
          have HD := hid (fun v w h => HF false v [d] w h (fits_small (by simp [hdi]) (by simp)))
          rw [← hF] at HL
          rw [hdf] at HD
          generalize formS false Y = F at HY HL
          clear hxa HO HA HF ha hb hp hFM hFM2 hxi hyi hyl hci hxx hq hF hdi hdf
          go_enter Try.func6, Try.ntmps6
          go_upto_region 10 with (first
            | (have _u := HB3; clear _u; go_at_call 16; refine (HP2.out _).mono ?_; rintro e w4 ⟨rfl, hb4⟩; have SY4 := hid (SY.out.below hb4); have x4 := (hb4.cell (World.block_lt_of_cell? w3 _ x0)).trans x0; have HB4 := hid (HB3.out.trans (hb4.mono HB3.out.size)); clear hb4 x0)
            | (have _u := HB2; clear _u; go_at_call 10; with_reducible refine (G2.out _).mono ?_; rintro e w3 ⟨v3, rfl, ho3, hb3⟩; obtain ⟨bx, ox, cx, rfl, x0⟩ := (SX.out.below hb3).one; have SY := hid ho3; have HB3 := hid (HB2.out.trans (hb3.mono HB2.out.size)); clear hb3 ho3)
            | (have _u := HB1; clear _u; go_at_call 10; with_reducible refine (G1.out _).mono ?_; rintro e w2 ⟨v2, rfl, ho2, hb2⟩; have SX := hid ho2; have HB2 := hid (HB1.out.trans (hb2.mono HB1.out.size)); clear hb2 ho2)
            | (go_at_call 16; refine (HP.out _).mono ?_; rintro e w1 ⟨rfl, hb1⟩; have HB1 := hid hb1; clear hb1))
          have HSS := hid (fun (w' : World) (h : Below w4.heap.size w4 w') => (show w'.cell? ⟨bx, ox, none⟩ = some (.int .i64 x) from (h.cell (World.block_lt_of_cell? w4 _ x4)).trans x4))
          have HBq := hid (Below.refl w4.heap.size w4).drew
          have SYq := hid (SY4.out.below HBq.out)
          clear x4
          go_region_held3 (fun w' => w'.cell? ⟨bx, ox, none⟩ = some (.int .i64 x))
            (first | exact HSS.out _ HB10.out | exact HSS.out _ (HB10.out.alloc HB10.out.size _) | exact HSS.out _ ((HB10.out.alloc HB10.out.size _).alloc (by first | exact (HB10.out.alloc HB10.out.size _).size) _) | exact HSS.out _ HB9.out | exact HSS.out _ (HB9.out.alloc HB9.out.size _) | exact HSS.out _ ((HB9.out.alloc HB9.out.size _).alloc (by first | exact (HB9.out.alloc HB9.out.size _).size) _) | exact HSS.out _ HB8.out | exact HSS.out _ (HB8.out.alloc HB8.out.size _) | exact HSS.out _ ((HB8.out.alloc HB8.out.size _).alloc (by first | exact (HB8.out.alloc HB8.out.size _).size) _) | exact HSS.out _ HB7.out | exact HSS.out _ (HB7.out.alloc HB7.out.size _) | exact HSS.out _ ((HB7.out.alloc HB7.out.size _).alloc (by first | exact (HB7.out.alloc HB7.out.size _).size) _) | exact HSS.out _ HB6.out | exact HSS.out _ (HB6.out.alloc HB6.out.size _) | exact HSS.out _ ((HB6.out.alloc HB6.out.size _).alloc (by first | exact (HB6.out.alloc HB6.out.size _).size) _) | exact HSS.out _ HB5.out | exact HSS.out _ (HB5.out.alloc HB5.out.size _) | exact HSS.out _ ((HB5.out.alloc HB5.out.size _).alloc (by first | exact (HB5.out.alloc HB5.out.size _).size) _) | exact HSS.out _ HBq.out | exact HSS.out _ (HBq.out.alloc HBq.out.size _) | exact HSS.out _ ((HBq.out.alloc HBq.out.size _).alloc (by first | exact (HBq.out.alloc HBq.out.size _).size) _))
            (first
              | (have _u := HB9; clear _u; go_simp; go_at_call 14; refine (HW.out _).mono ?_; rintro e w10 ⟨rfl, hb10⟩; have HB10 : Hid (Below w4.heap.size w4 w10) := hid (by first | exact via0 HB9.out HB9.out.size hb10 | exact via1 HB9.out HB9.out.size hb10 | exact via2 HB9.out HB9.out.size hb10); clear hb10)
              | (have _u := HB8; clear _u; go_simp; go_at_call 9; refine (keepInts v8 _ [d] [d] _ (by first | exact HO8.out | exact HO8.out.alloc _) (by first | (refine lit_sl ?_ ?_ ?_ ?_ <;> first | (simp; done) | rfl) | (refine Sl.alloc (lit_sl ?_ ?_ ?_ ?_) _ <;> first | (simp; done) | rfl) | (refine lit_below HC8.out ?_ ?_ ?_ ?_ <;> first | (simp; done) | rfl) | (refine lit_below2 HC8.out ?_ ?_ ?_ ?_ <;> first | (simp; done) | rfl) | (refine Sl.alloc (lit_below HC8.out ?_ ?_ ?_ ?_) _ <;> first | (simp; done) | rfl))).mono ?_; rw [eqL_self]; rintro e w9 ⟨rfl, n9, hw9⟩; have HB9 : Hid (Below w4.heap.size w4 w9) := hid (by rw [hw9]; first | exact below_drewN' HB8.out n9 | exact below_drewN' (HB8.out.alloc HB8.out.size _) n9); clear hw9)
              | (have _u := HB7; clear _u; go_simp; go_at_call 17; with_reducible refine (HD.out _ _ (by first | (refine lit_sl ?_ ?_ ?_ ?_ <;> first | (simp; done) | rfl) | (refine Sl.alloc (lit_sl ?_ ?_ ?_ ?_) _ <;> first | (simp; done) | rfl))).mono ?_; rintro e w8 ⟨v8, rfl, ho8, hb8⟩; have HO8 := hid ho8.sl; have HC8 := hid hb8; have HB8 : Hid (Below w4.heap.size w4 w8) := hid (by first | exact via0 HB7.out HB7.out.size hb8 | exact via1 HB7.out HB7.out.size hb8 | exact via2 HB7.out HB7.out.size hb8); clear hb8 ho8)
              | (have _u := HB6; clear _u; go_simp; go_at_call 9; refine (keepInts v5 v6 F F _ HO56.out HO6.out).mono ?_; rw [eqL_self]; rintro e w7 ⟨rfl, n7, hw7⟩; have HB7 : Hid (Below w4.heap.size w4 w7) := hid (by rw [hw7]; exact below_drewN' HB6.out n7); clear hw7)
              | (have _u := HB5; clear _u; go_simp; go_at_call 17; with_reducible refine (HL.out _ _ (by first | (refine lit_sl ?_ ?_ ?_ ?_ <;> first | (simp; done) | rfl) | (refine Sl.alloc (lit_sl ?_ ?_ ?_ ?_) _ <;> first | (simp; done) | rfl) | (refine lit_below HC5.out ?_ ?_ ?_ ?_ <;> first | (simp; done) | rfl) | (refine lit_below2 HC5.out ?_ ?_ ?_ ?_ <;> first | (simp; done) | rfl) | (refine Sl.alloc (lit_below HC5.out ?_ ?_ ?_ ?_) _ <;> first | (simp; done) | rfl))).mono ?_; rintro e w6 ⟨v6, rfl, ho6, hb6⟩; have HO6 := hid ho6.sl; have HO56 : Hid (Sl .i64 w6 v5 F) := hid (by first | exact HO5.out.below hb6 | exact (HO5.out.alloc _).below hb6); have HB6 : Hid (Below w4.heap.size w4 w6) := hid (by first | exact via0 HB5.out HB5.out.size hb6 | exact via1 HB5.out HB5.out.size hb6 | exact via2 HB5.out HB5.out.size hb6); clear hb6 ho6)
              | (go_simp; go_at_call 17; with_reducible refine (HY.out v3 _ (by first | exact SYq.out | exact SYq.out.alloc _ | exact (SY4.out.alloc _).below (Below.refl _ _).drew)).mono ?_; rintro e w5 ⟨v5, rfl, ho5, hb5⟩; have HO5 := hid ho5.sl; have HC5 := hid (undrew12 hb5); have HB5 : Hid (Below w4.heap.size w4 w5) := hid (by first | exact via0 HBq.out HBq.out.size hb5 | exact via3 (Below.refl w4.heap.size w4) (Nat.le_refl _) hb5 | exact via1 HBq.out HBq.out.size hb5 | exact via2 HBq.out HBq.out.size hb5); clear hb5 ho5))
          all_goals go_simp
          all_goals go_wp2_with (fail)
          all_goals go_ret
          all_goals exact ⟨rfl, HB4.out.trans (HB10.out.mono HB4.out.size)⟩
    · obtain ⟨n, hn⟩ : ∃ n, n = X.length := ⟨_, rfl⟩
      have hn1 : n ≠ 1 := fun h => hx1 (by
        rw [hn] at h
        match X, h with
        | [x], _ => exact ⟨x, rfl⟩)
      have e1 : ((n : Int) != 1) = true := by simp; omega
      have HN := hid hn
      clear hn hn1 hx1 HO HA HF ha hb hp hFM hxi hyi hyl hci
      go_enter Try.func6, Try.ntmps6
      go_wp2_with (first
        | (have _u := HB3; clear _u; go_at_call 14; refine (HW.out _).mono ?_; rintro e w4 ⟨rfl, hb4⟩; have HB4 := hid (HB3.out.trans (hb4.mono HB3.out.size)); clear hb4)
        | (have _u := HB2; clear _u; go_at_call 10; with_reducible refine (G2.out _).mono ?_; rintro e w3 ⟨v3, rfl, ho3, hb3⟩; obtain ⟨ax, cx, hvx⟩ := SX.out.form; rw [← HN.out] at hvx; subst hvx; have HB3 := hid (HB2.out.trans (hb3.mono HB2.out.size)); clear hb3 ho3)
        | (have _u := HB1; clear _u; go_at_call 10; with_reducible refine (G1.out _).mono ?_; rintro e w2 ⟨v2, rfl, ho2, hb2⟩; have SX := hid ho2; have HB2 := hid (HB1.out.trans (hb2.mono HB1.out.size)); clear hb2 ho2)
        | (go_at_call 16; refine (HP.out _).mono ?_; rintro e w1 ⟨rfl, hb1⟩; have HB1 := hid hb1; clear hb1))
      go_ret
      exact ⟨rfl, HB4.out⟩
end Go.Proofs.Ytdncmdpacidgmaa
