/- Several texts in one: Te18h, Te18i, Te18j, Walks18. -/
import Derived.Test.YtobicndpkojgiaaPk40
import Derived.Test.YtobicndpkojgiaaPk30
import Derived.Test.YtobicndpkojgiaaPk11
import Derived.Test.YtobicndpkojgiaaPk17
import Derived.Test.YtobicndpkojgiaaPk33
import Derived.Test.YtobicndpkojgiaaPk18
import Derived.Test.YtobicndpkojgiaaPk34
import Derived.Test.YtobicndpkojgiaaPk41
import Derived.Test.YtobicndpkojgiaaPk39
import Derived.Test.YtobicndpkojgiaaPk42
import Derived.Test.YtobicndpkojgiaaPk37
/-! Te18h -/
namespace Go.Proofs.Ytobicndpkojgiaa
open Go.RowKit
set_option linter.unusedVariables false

theorem ctl_u8 {c : Int} (h : ctlB c = true) : 0 ≤ c ∧ c ≤ 255 := by
  unfold ctlB at h
  simp only [Bool.or_eq_true, beq_iff_eq] at h
  omega
set_option maxHeartbeats 4000000 in
set_option maxRecDepth 100000 in
theorem teWrite1 (c g : Int) (w : World) (h1 : ctlB c = true) : Calls Try.prog 25 #[.agg #[.int .i64 c, .int .i64 g]] w fun e w' => ∃ a n cp h, e = .returned (.tuple #[.agg #[.slice a n cp, .int .i64 h], .bool (some ([c], g)).isSome]) ∧ (∀ bs h', (some ([c], g)) = some (bs, h') → h = h' ∧ Own .u8 5 w.heap.size w' (.slice a n cp) bs) ∧ Below w.heap.size w w' := by
  have HB0 := hid (show Below w.heap.size w ((w.alloc (.cells #[.int .i64 c, .int .i64 g] 54)).alloc (.cells #[.slice none 0 0, .int .i64 0] 56)) from by (repeat (first | exact Below.refl _ _ | exact below_drewN _ | refine Below.drew ?_ | refine Below.alloc ?_ (by first | omega | (simp; done) | (simp; omega)) _ | refine Below.setCell ?_ (by first | (simp; done) | (simp; omega)) _ | refine below_drewN' ?_ _)))
  have HT0 := hid ((Box.made w 54 [.int .i64 c, .int .i64 g]).alloc (.cells #[.slice none 0 0, .int .i64 0] 56))
  have HX0 := hid (box_last w (.cells #[.int .i64 c, .int .i64 g] 54) 56 [.slice none 0 0, .int .i64 0])
  have HI := hid (fun w => teIsByte c w)
  rw [h1] at HI
  obtain ⟨u0, u1⟩ := ctl_u8 h1
  have hu := u8_same u0 u1
  have HOW := hid (fun o => lit_own (k := .u8) (w := ((w.alloc (.cells #[.int .i64 c, .int .i64 g] 54)).alloc o)) (base := w.heap.size) (e := 5) (xs := [c]) (n := w.heap.size + 1 + 1) (len := 1) (cs := #[.int .u8 c]) (by simp) (by simp; omega) rfl rfl (by simp))
  have HBW := hid ((box_last w (.cells #[.int .i64 c, .int .i64 g] 54) 56 [.slice (some ⟨w.heap.size + 1 + 1, 0, none⟩) 1 1, .int .i64 g]).alloc (.cells #[.int .u8 c] 5))
  clear h1
  go_enter Try.func25, Try.ntmps25
  go_wp2_with (go_at_call 26; refine (HI.out _).mono ?_; rintro e wi ⟨rfl, rfl⟩)
  refine bodyPost_ret (results_two rfl rfl (loadPc HBW.out)) rfl ⟨_, _, _, _, rfl, fun bs h' h => ?_, by (repeat (first | exact Below.refl _ _ | exact below_drewN _ | refine Below.drew ?_ | refine Below.alloc ?_ (by first | omega | (simp; done) | (simp; omega)) _ | refine Below.setCell ?_ (by first | (simp; done) | (simp; omega)) _ | refine below_drewN' ?_ _))⟩
  simp only [Option.some.injEq, Prod.mk.injEq] at h
  obtain ⟨rfl, rfl⟩ := h
  exact ⟨rfl, HOW.out _⟩
set_option maxHeartbeats 4000000 in
set_option maxRecDepth 100000 in
theorem teWrite2 (c g p : Int) (w : World) (h1 : ctlB c = false) (h2 : findS16 g c = (p, true)) : Calls Try.prog 25 #[.agg #[.int .i64 c, .int .i64 g]] w fun e w' => ∃ a n cp h, e = .returned (.tuple #[.agg #[.slice a n cp, .int .i64 h], .bool (some (bytP p, g)).isSome]) ∧ (∀ bs h', (some (bytP p, g)) = some (bs, h') → h = h' ∧ Own .u8 5 w.heap.size w' (.slice a n cp) bs) ∧ Below w.heap.size w w' := by
  have HB0 := hid (show Below w.heap.size w ((w.alloc (.cells #[.int .i64 c, .int .i64 g] 54)).alloc (.cells #[.slice none 0 0, .int .i64 0] 56)) from by (repeat (first | exact Below.refl _ _ | exact below_drewN _ | refine Below.drew ?_ | refine Below.alloc ?_ (by first | omega | (simp; done) | (simp; omega)) _ | refine Below.setCell ?_ (by first | (simp; done) | (simp; omega)) _ | refine below_drewN' ?_ _)))
  have HT0 := hid ((Box.made w 54 [.int .i64 c, .int .i64 g]).alloc (.cells #[.slice none 0 0, .int .i64 0] 56))
  have HX0 := hid (box_last w (.cells #[.int .i64 c, .int .i64 g] 54) 56 [.slice none 0 0, .int .i64 0])
  have HI := hid (fun w => teIsByte c w)
  rw [h1] at HI
  have HF1 := hid (fun w => csFind g c w)
  rw [h2] at HF1
  obtain ⟨r, hr, hf, hv, ht⟩ := find_row h2
  have HC := hid (fun w => teCharacter hr w)
  rw [hf, ht] at HC
  generalize bytP p = Y at HC ⊢
  clear h1 h2 hr hf hv ht
  go_enter Try.func25, Try.ntmps25
  go_wp2_with (first | (go_at_call 26; refine (HI.out _).mono ?_; rintro e wi ⟨rfl, rfl⟩) | (go_at_call 39; refine (HF1.out _).mono ?_; rintro e w1 ⟨rfl, hb1⟩; have HB1 := hid (HB0.out.trans (hb1.mono HB0.out.size)); have HT1 := hid (HT0.out.below hb1 HT0.out.lt); have HX1 := hid (HX0.out.below hb1 HX0.out.lt); have x0 := HT1.out.cell 0; have x1 := HT1.out.cell 1; simp only [List.getElem?_cons_zero, List.getElem?_cons_succ] at x0 x1; have z0 := HX1.out.cell 0; have z1 := HX1.out.cell 1; have f0 := HX1.out.ice 0; have f1 := HX1.out.ice 1; simp only [List.getElem?_cons_zero, List.getElem?_cons_succ] at z0 z1; clear hb1))
  have HGq := hid (grow_below (Below.refl w1.heap.size w1).drew (some (w.heap.size + 1)))
  have HBq := hid (Below.refl w1.heap.size w1).drew
  have HXq := hid (HX1.out.below HBq.out HX1.out.lt)
  have HGS := hid (fun w' (hg : w1.grownBy w' (some (w.heap.size + 1))) => (show w'.cell? ⟨w.heap.size, 0, none⟩ = some (.int .i64 c) ∧ w'.cell? ⟨w.heap.size, 1, none⟩ = some (.int .i64 g) from by
    have hb : w'.heap[w.heap.size]? = w1.heap[w.heap.size]? := hg.block _ HT1.out.lt (fun e => by injection e; omega)
    have hcell : ∀ j, w'.cell? ⟨w.heap.size, j, none⟩ = w1.cell? ⟨w.heap.size, j, none⟩ := fun j => by simp only [World.cell?, hb]
    exact ⟨(hcell 0).trans x0, (hcell 1).trans x1⟩))
  clear x0 x1 z0 z1 f0 f1
  have HCq := hid (HC.out w1.drew)
  go_region_held3 (fun w' => w'.cell? ⟨w.heap.size, 0, none⟩ = some (.int .i64 c) ∧ w'.cell? ⟨w.heap.size, 1, none⟩ = some (.int .i64 g))
    (first | exact HGS.out _ HGq.out | exact HGS.out _ HG2.out | exact HGS.out _ (grow_set1 HG2.out _ _) | exact HGS.out _ (grow_set1 (grow_set1 HG2.out _ _) _ _))
    (first | (go_simp; go_at_call 40; with_reducible refine HCq.out.mono ?_; rintro e w2 ⟨v2, rfl, ho2, hb2⟩; obtain ⟨a2, c2, hv2⟩ := ho2.sl.form; obtain ⟨n2, hn2⟩ : ∃ n, n = Y.length := ⟨_, rfl⟩; rw [← hn2] at hv2; subst hv2; have HO2 := hid (ho2.mono (HB1.out.trans (HBq.out.mono HB1.out.size)).size); have HB2 := hid (HBq.out.trans (hb2.mono HBq.out.size)); have HG2 := hid (grow_below HB2.out (some (w.heap.size + 1))); have HX2 := hid (HXq.out.below hb2 HXq.out.lt); have z0 := HX2.out.cell 0; have z1 := HX2.out.cell 1; have f0 := HX2.out.ice 0; have f1 := HX2.out.ice 1; simp only [List.getElem?_cons_zero, List.getElem?_cons_succ] at z0 z1; clear ho2 hb2 hn2))
  go_wp2
  refine bodyPost_ret (results_two rfl rfl (loadPc (HX2.out.two (.slice a2 n2 c2) (.int .i64 g)))) rfl ⟨_, _, _, _, rfl, fun bs h' h => ?_, below_two (HB1.out.trans (HB2.out.mono HB1.out.size)) (by omega)⟩
  simp only [Option.some.injEq, Prod.mk.injEq] at h
  obtain ⟨rfl, rfl⟩ := h
  exact ⟨rfl, far_two HO2.out HX2.out (by decide) _ _⟩
set_option maxHeartbeats 4000000 in
set_option maxRecDepth 100000 in
theorem teWrite3 (c g q p : Int) (w : World) (h1 : ctlB c = false) (h2 : findS16 g c = (q, false)) (h3 : findS16 103 c = (p, true)) : Calls Try.prog 25 #[.agg #[.int .i64 c, .int .i64 g]] w fun e w' => ∃ a n cp h, e = .returned (.tuple #[.agg #[.slice a n cp, .int .i64 h], .bool (some ([p + 128], g)).isSome]) ∧ (∀ bs h', (some ([p + 128], g)) = some (bs, h') → h = h' ∧ Own .u8 5 w.heap.size w' (.slice a n cp) bs) ∧ Below w.heap.size w w' := by
  have HB0 := hid (show Below w.heap.size w ((w.alloc (.cells #[.int .i64 c, .int .i64 g] 54)).alloc (.cells #[.slice none 0 0, .int .i64 0] 56)) from by (repeat (first | exact Below.refl _ _ | exact below_drewN _ | refine Below.drew ?_ | refine Below.alloc ?_ (by first | omega | (simp; done) | (simp; omega)) _ | refine Below.setCell ?_ (by first | (simp; done) | (simp; omega)) _ | refine below_drewN' ?_ _)))
  have HT0 := hid ((Box.made w 54 [.int .i64 c, .int .i64 g]).alloc (.cells #[.slice none 0 0, .int .i64 0] 56))
  have HX0 := hid (box_last w (.cells #[.int .i64 c, .int .i64 g] 54) 56 [.slice none 0 0, .int .i64 0])
  have HI := hid (fun w => teIsByte c w)
  rw [h1] at HI
  have HF1 := hid (fun w => csFind g c w)
  rw [h2] at HF1
  have HF2 := hid (fun w => csFind 103 c w)
  rw [h3] at HF2
  have hp : 0 ≤ p ∧ p ≤ 127 := by
    obtain ⟨r, hr, hf, hv, ht⟩ := find_row h3
    obtain ⟨-, -, h87, hm, hd, h0, -⟩ := code_row hr
    have h255 : r.t ≤ 255 := by
      have : decide (255 < r.t) = false := by rw [← h87, hf]; rfl
      have := of_decide_eq_false this
      omega
    omega
  obtain ⟨p0, p1⟩ := hp
  have hu : IntKind.u8.wrap (p + 128) = p + 128 := u8_same (by omega) (by omega)
  clear h1 h2 h3
  go_enter Try.func25, Try.ntmps25
  go_wp2_with (first | (go_at_call 26; refine (HI.out _).mono ?_; rintro e wi ⟨rfl, rfl⟩) | (have _u := HB1; clear _u; go_at_call 39; refine (HF2.out _).mono ?_; rintro e w2 ⟨rfl, hb2⟩; have HB2 := hid (HB1.out.trans (hb2.mono HB1.out.size)); have HT2 := hid (HT1.out.below hb2 HT1.out.lt); have HX2 := hid (HX1.out.below hb2 HX1.out.lt); have x0 := HT2.out.cell 0; have x1 := HT2.out.cell 1; simp only [List.getElem?_cons_zero, List.getElem?_cons_succ] at x0 x1; have z0 := HX2.out.cell 0; have z1 := HX2.out.cell 1; have f0 := HX2.out.ice 0; have f1 := HX2.out.ice 1; simp only [List.getElem?_cons_zero, List.getElem?_cons_succ] at z0 z1; clear hb2; have HT3 := hid (HT2.out.alloc (.cells #[.int .u8 (p + 128)] 5)); have HX3 := hid (HX2.out.alloc (.cells #[.int .u8 (p + 128)] 5)); have x0 := HT3.out.cell 0; have x1 := HT3.out.cell 1; simp only [List.getElem?_cons_zero, List.getElem?_cons_succ] at x0 x1; have z0 := HX3.out.cell 0; have z1 := HX3.out.cell 1; have f0 := HX3.out.ice 0; have f1 := HX3.out.ice 1; simp only [List.getElem?_cons_zero, List.getElem?_cons_succ] at z0 z1) | (go_at_call 39; refine (HF1.out _).mono ?_; rintro e w1 ⟨rfl, hb1⟩; have HB1 := hid (HB0.out.trans (hb1.mono HB0.out.size)); have HT1 := hid (HT0.out.below hb1 HT0.out.lt); have HX1 := hid (HX0.out.below hb1 HX0.out.lt); have x0 := HT1.out.cell 0; have x1 := HT1.out.cell 1; simp only [List.getElem?_cons_zero, List.getElem?_cons_succ] at x0 x1; have z0 := HX1.out.cell 0; have z1 := HX1.out.cell 1; have f0 := HX1.out.ice 0; have f1 := HX1.out.ice 1; simp only [List.getElem?_cons_zero, List.getElem?_cons_succ] at z0 z1; clear hb1))
  have HOW := hid (lit_own (k := .u8) (w := w2) (base := w.heap.size) (e := 5) (xs := [p + 128]) (n := w2.heap.size) (len := 1) (cs := #[.int .u8 (p + 128)]) rfl HB2.out.size rfl rfl (by simp))
  refine bodyPost_ret (results_two rfl rfl (loadPc (HX3.out.two (.slice (some ⟨w2.heap.size, 0, none⟩) 1 1) (.int .i64 g)))) rfl ⟨_, _, _, _, rfl, fun bs h' h => ?_, below_two (HB2.out.alloc HB2.out.size _) (by omega)⟩
  simp only [Option.some.injEq, Prod.mk.injEq] at h
  obtain ⟨rfl, rfl⟩ := h
  exact ⟨rfl, far_two HOW.out HX3.out (by decide) _ _⟩
set_option maxHeartbeats 4000000 in
set_option maxRecDepth 100000 in
theorem teWrite4 (HE : ShEscOk) (c g q p q2 le : Int) (w : World) (h1 : ctlB c = false) (h2 : findS16 g c = (q, false)) (h3 : findS16 103 c = (q2, false)) (h4 : accS c = (p, le, true)) : Calls Try.prog 25 #[.agg #[.int .i64 c, .int .i64 g]] w fun e w' => ∃ a n cp h, e = .returned (.tuple #[.agg #[.slice a n cp, .int .i64 h], .bool (some (if le = 32 ∨ g = 102 ∨ g = 6 then ([p + 128, le], g) else (escP 0 102 ++ [p + 128, le], 102))).isSome]) ∧ (∀ bs h', (some (if le = 32 ∨ g = 102 ∨ g = 6 then ([p + 128, le], g) else (escP 0 102 ++ [p + 128, le], 102))) = some (bs, h') → h = h' ∧ Own .u8 5 w.heap.size w' (.slice a n cp) bs) ∧ Below w.heap.size w w' := by
  have HB0 := hid (show Below w.heap.size w ((w.alloc (.cells #[.int .i64 c, .int .i64 g] 54)).alloc (.cells #[.slice none 0 0, .int .i64 0] 56)) from by (repeat (first | exact Below.refl _ _ | exact below_drewN _ | refine Below.drew ?_ | refine Below.alloc ?_ (by first | omega | (simp; done) | (simp; omega)) _ | refine Below.setCell ?_ (by first | (simp; done) | (simp; omega)) _ | refine below_drewN' ?_ _)))
  have HT0 := hid ((Box.made w 54 [.int .i64 c, .int .i64 g]).alloc (.cells #[.slice none 0 0, .int .i64 0] 56))
  have HX0 := hid (box_last w (.cells #[.int .i64 c, .int .i64 g] 54) 56 [.slice none 0 0, .int .i64 0])
  have HI := hid (fun w => teIsByte c w)
  rw [h1] at HI
  have HF1 := hid (fun w => csFind g c w)
  rw [h2] at HF1
  have HF2 := hid (fun w => csFind 103 c w)
  rw [h3] at HF2
  have HA := hid (fun w => csAccent c w)
  rw [h4] at HA
  obtain ⟨n, lone, hmk, -, -, hcase⟩ := acc_facts h4
  obtain ⟨r, hr, hrf, -, -⟩ := mark_row hmk
  have hpl := List.all_eq_true.1 acc_place r hr
  rw [decide_eq_true_iff, hrf] at hpl
  have hle : 0 ≤ le ∧ le ≤ 255 := by
    rcases hcase with ⟨h, -⟩ | ⟨-, -, hl, -⟩
    · omega
    · unfold letB at hl
      rw [decide_eq_true_iff] at hl
      omega
  have HW := hid (fun w => teWriteAccent HE c g p le w (by omega) (by omega) hle.1 hle.2)
  have e1 : (if le = 32 ∨ g = 102 ∨ g = 6 then ([p + 128, le], g) else (escP 0 102 ++ [p + 128, le], 102)) = ((if le = 32 ∨ g = 102 ∨ g = 6 then [p + 128, le] else escP 0 102 ++ [p + 128, le]), (if le = 32 ∨ g = 102 ∨ g = 6 then g else 102)) := by split <;> rfl
  rw [e1]
  generalize (if le = 32 ∨ g = 102 ∨ g = 6 then [p + 128, le] else escP 0 102 ++ [p + 128, le]) = Y at HW ⊢
  generalize (if le = 32 ∨ g = 102 ∨ g = 6 then g else 102) = h0 at HW ⊢
  clear h1 h2 h3 h4 hmk hcase hr hrf hpl hle e1 HE
  go_enter Try.func25, Try.ntmps25
  go_wp2_with (first | (go_at_call 26; refine (HI.out _).mono ?_; rintro e wi ⟨rfl, rfl⟩) | (have _u := HB1; clear _u; go_at_call 39; refine (HF2.out _).mono ?_; rintro e w2 ⟨rfl, hb2⟩; have HB2 := hid (HB1.out.trans (hb2.mono HB1.out.size)); have HT2 := hid (HT1.out.below hb2 HT1.out.lt); have HX2 := hid (HX1.out.below hb2 HX1.out.lt); have x0 := HT2.out.cell 0; have x1 := HT2.out.cell 1; simp only [List.getElem?_cons_zero, List.getElem?_cons_succ] at x0 x1; have z0 := HX2.out.cell 0; have z1 := HX2.out.cell 1; have f0 := HX2.out.ice 0; have f1 := HX2.out.ice 1; simp only [List.getElem?_cons_zero, List.getElem?_cons_succ] at z0 z1; clear hb2) | (go_at_call 39; refine (HF1.out _).mono ?_; rintro e w1 ⟨rfl, hb1⟩; have HB1 := hid (HB0.out.trans (hb1.mono HB0.out.size)); have HT1 := hid (HT0.out.below hb1 HT0.out.lt); have HX1 := hid (HX0.out.below hb1 HX0.out.lt); have x0 := HT1.out.cell 0; have x1 := HT1.out.cell 1; simp only [List.getElem?_cons_zero, List.getElem?_cons_succ] at x0 x1; have z0 := HX1.out.cell 0; have z1 := HX1.out.cell 1; have f0 := HX1.out.ice 0; have f1 := HX1.out.ice 1; simp only [List.getElem?_cons_zero, List.getElem?_cons_succ] at z0 z1; clear hb1) | (go_at_call 28; refine (HA.out _).mono ?_; rintro e w3 ⟨rfl, hb3⟩; have HB3 := hid (HB2.out.trans (hb3.mono HB2.out.size)); have HT3 := hid (HT2.out.below hb3 HT2.out.lt); have HX3 := hid (HX2.out.below hb3 HX2.out.lt); have x0 := HT3.out.cell 0; have x1 := HT3.out.cell 1; simp only [List.getElem?_cons_zero, List.getElem?_cons_succ] at x0 x1; have z0 := HX3.out.cell 0; have z1 := HX3.out.cell 1; have f0 := HX3.out.ice 0; have f1 := HX3.out.ice 1; simp only [List.getElem?_cons_zero, List.getElem?_cons_succ] at z0 z1; clear hb3) | (go_at_call 41; go_loud (refine (HW.out _).mono ?_; rintro e w4 ⟨v4, rfl, ho4, hb4⟩; obtain ⟨a4, c4, hv4⟩ := ho4.sl.form; obtain ⟨n4, hn4⟩ : ∃ n, n = Y.length := ⟨_, rfl⟩; rw [← hn4] at hv4; subst hv4; have HO4 := hid (ho4.mono HB3.out.size); have HB4 := hid (HB3.out.trans (hb4.mono HB3.out.size)); have HT4 := hid (HT3.out.below hb4 HT3.out.lt); have HX4 := hid (HX3.out.below hb4 HX3.out.lt); have x0 := HT4.out.cell 0; have x1 := HT4.out.cell 1; simp only [List.getElem?_cons_zero, List.getElem?_cons_succ] at x0 x1; have z0 := HX4.out.cell 0; have z1 := HX4.out.cell 1; have f0 := HX4.out.ice 0; have f1 := HX4.out.ice 1; simp only [List.getElem?_cons_zero, List.getElem?_cons_succ] at z0 z1; clear ho4 hb4 hn4)))
  refine bodyPost_ret (results_two rfl rfl (loadPc (HX4.out.two (.slice a4 n4 c4) (.int .i64 h0)))) rfl ⟨_, _, _, _, rfl, fun bs h' h => ?_, below_two HB4.out (by omega)⟩
  simp only [Option.some.injEq, Prod.mk.injEq] at h
  obtain ⟨rfl, rfl⟩ := h
  exact ⟨rfl, far_two HO4.out HX4.out (by decide) _ _⟩
set_option maxHeartbeats 4000000 in
set_option maxRecDepth 100000 in
theorem teWrite5 (HE : ShEscOk) (c g q p q2 le : Int) (w : World) (h1 : ctlB c = false) (h2 : findS16 g c = (q, false)) (h3 : findS16 103 c = (q2, false)) (h4 : accS c = (p, le, false)) : Calls Try.prog 25 #[.agg #[.int .i64 c, .int .i64 g]] w fun e w' => ∃ a n cp h, e = .returned (.tuple #[.agg #[.slice a n cp, .int .i64 h], .bool (if (desS c).2 = true then some (escP 0 (desS c).1 ++ bytP (findS16 (desS c).1 c).1, (desS c).1) else none).isSome]) ∧ (∀ bs h', (if (desS c).2 = true then some (escP 0 (desS c).1 ++ bytP (findS16 (desS c).1 c).1, (desS c).1) else none) = some (bs, h') → h = h' ∧ Own .u8 5 w.heap.size w' (.slice a n cp) bs) ∧ Below w.heap.size w w' := by
  have HB0 := hid (show Below w.heap.size w ((w.alloc (.cells #[.int .i64 c, .int .i64 g] 54)).alloc (.cells #[.slice none 0 0, .int .i64 0] 56)) from by (repeat (first | exact Below.refl _ _ | exact below_drewN _ | refine Below.drew ?_ | refine Below.alloc ?_ (by first | omega | (simp; done) | (simp; omega)) _ | refine Below.setCell ?_ (by first | (simp; done) | (simp; omega)) _ | refine below_drewN' ?_ _)))
  have HT0 := hid ((Box.made w 54 [.int .i64 c, .int .i64 g]).alloc (.cells #[.slice none 0 0, .int .i64 0] 56))
  have HX0 := hid (box_last w (.cells #[.int .i64 c, .int .i64 g] 54) 56 [.slice none 0 0, .int .i64 0])
  have HI := hid (fun w => teIsByte c w)
  rw [h1] at HI
  have HF1 := hid (fun w => csFind g c w)
  rw [h2] at HF1
  have HF2 := hid (fun w => csFind 103 c w)
  rw [h3] at HF2
  have HA := hid (fun w => csAccent c w)
  rw [h4] at HA
  have HW := hid (fun w => teWriteDesignated HE c w)
  generalize escP 0 (desS c).1 ++ bytP (findS16 (desS c).1 c).1 = Y at HW ⊢
  generalize desS c = D at HW ⊢
  obtain ⟨d, ok⟩ := D
  dsimp only at HW ⊢
  obtain ⟨R, hR⟩ : ∃ R, R = (if ok = true then some (Y, d) else none) := ⟨_, rfl⟩
  have e1 : R.isSome = ok := by rw [hR]; cases ok <;> rfl
  rw [← hR, e1]
  have HR := hid hR
  clear h1 h2 h3 h4 HE e1 hR
  go_enter Try.func25, Try.ntmps25
  go_wp2_with (first | (go_at_call 26; refine (HI.out _).mono ?_; rintro e wi ⟨rfl, rfl⟩) | (have _u := HB1; clear _u; go_at_call 39; refine (HF2.out _).mono ?_; rintro e w2 ⟨rfl, hb2⟩; have HB2 := hid (HB1.out.trans (hb2.mono HB1.out.size)); have HT2 := hid (HT1.out.below hb2 HT1.out.lt); have HX2 := hid (HX1.out.below hb2 HX1.out.lt); have x0 := HT2.out.cell 0; have x1 := HT2.out.cell 1; simp only [List.getElem?_cons_zero, List.getElem?_cons_succ] at x0 x1; have z0 := HX2.out.cell 0; have z1 := HX2.out.cell 1; have f0 := HX2.out.ice 0; have f1 := HX2.out.ice 1; simp only [List.getElem?_cons_zero, List.getElem?_cons_succ] at z0 z1; clear hb2) | (go_at_call 39; refine (HF1.out _).mono ?_; rintro e w1 ⟨rfl, hb1⟩; have HB1 := hid (HB0.out.trans (hb1.mono HB0.out.size)); have HT1 := hid (HT0.out.below hb1 HT0.out.lt); have HX1 := hid (HX0.out.below hb1 HX0.out.lt); have x0 := HT1.out.cell 0; have x1 := HT1.out.cell 1; simp only [List.getElem?_cons_zero, List.getElem?_cons_succ] at x0 x1; have z0 := HX1.out.cell 0; have z1 := HX1.out.cell 1; have f0 := HX1.out.ice 0; have f1 := HX1.out.ice 1; simp only [List.getElem?_cons_zero, List.getElem?_cons_succ] at z0 z1; clear hb1) | (go_at_call 28; refine (HA.out _).mono ?_; rintro e w3 ⟨rfl, hb3⟩; have HB3 := hid (HB2.out.trans (hb3.mono HB2.out.size)); have HT3 := hid (HT2.out.below hb3 HT2.out.lt); have HX3 := hid (HX2.out.below hb3 HX2.out.lt); have x0 := HT3.out.cell 0; have x1 := HT3.out.cell 1; simp only [List.getElem?_cons_zero, List.getElem?_cons_succ] at x0 x1; have z0 := HX3.out.cell 0; have z1 := HX3.out.cell 1; have f0 := HX3.out.ice 0; have f1 := HX3.out.ice 1; simp only [List.getElem?_cons_zero, List.getElem?_cons_succ] at z0 z1; clear hb3) | (go_at_call 42; go_loud (refine (HW.out _).mono ?_; rintro e w4 ⟨a4, n4, c4, h4, rfl, ho4, hb4⟩; have HO4 := hid (fun h => (⟨(ho4 h).1, (ho4 h).2.mono HB3.out.size⟩ : _ ∧ _)); have HB4 := hid (HB3.out.trans (hb4.mono HB3.out.size)); have HT4 := hid (HT3.out.below hb4 HT3.out.lt); have HX4 := hid (HX3.out.below hb4 HX3.out.lt); have x0 := HT4.out.cell 0; have x1 := HT4.out.cell 1; simp only [List.getElem?_cons_zero, List.getElem?_cons_succ] at x0 x1; have z0 := HX4.out.cell 0; have z1 := HX4.out.cell 1; have f0 := HX4.out.ice 0; have f1 := HX4.out.ice 1; simp only [List.getElem?_cons_zero, List.getElem?_cons_succ] at z0 z1; clear ho4 hb4)))
  refine bodyPost_ret (results_two rfl rfl (loadPc (HX4.out.two (.slice a4 n4 c4) (.int .i64 h4)))) rfl ⟨_, _, _, _, rfl, fun bs h' h => ?_, below_two HB4.out (by omega)⟩
  rw [HR.out] at h
  cases ok with
  | false => simp at h
  | true =>
    simp only [if_true, Option.some.injEq, Prod.mk.injEq] at h
    obtain ⟨rfl, rfl⟩ := h
    exact ⟨(HO4.out rfl).1, far_two (HO4.out rfl).2 HX4.out (by decide) _ _⟩
theorem teWrite (HE : ShEscOk) (c g : Int) (w : World) : Calls Try.prog 25 #[.agg #[.int .i64 c, .int .i64 g]] w fun e w' => ∃ a n cp h, e = .returned (.tuple #[.agg #[.slice a n cp, .int .i64 h], .bool (oneP g c).isSome]) ∧ (∀ bs h', (oneP g c) = some (bs, h') → h = h' ∧ Own .u8 5 w.heap.size w' (.slice a n cp) bs) ∧ Below w.heap.size w w' := by
  unfold oneP
  by_cases h1 : ctlB c = true
  · rw [if_pos h1]
    exact teWrite1 c g w h1
  rw [if_neg h1]
  have h1' : ctlB c = false := by simpa using h1
  generalize hf : findS16 g c = F
  obtain ⟨q, k⟩ := F
  cases k with
  | true =>
    rw [if_pos rfl]
    exact teWrite2 c g q w h1' hf
  | false =>
    rw [if_neg (by simp)]
    generalize hf2 : findS16 103 c = F
    obtain ⟨q2, k⟩ := F
    cases k with
    | true =>
      rw [if_pos rfl]
      exact teWrite3 c g q q2 w h1' hf hf2
    | false =>
      rw [if_neg (by simp)]
      generalize ha : accS c = F
      obtain ⟨p, le, k⟩ := F
      cases k with
      | true =>
        rw [if_pos rfl]
        have := teWrite4 HE c g q p q2 le w h1' hf hf2 ha
        have e : (if le = 32 ∨ g = 102 ∨ g = 6 then some ([p + 128, le], g) else some (escP 0 102 ++ [p + 128, le], 102)) = some (if le = 32 ∨ g = 102 ∨ g = 6 then ([p + 128, le], g) else (escP 0 102 ++ [p + 128, le], 102)) := by split <;> rfl
        simp only
        rw [e]
        exact this
      | false =>
        rw [if_neg (by simp)]
        exact teWrite5 HE c g q p q2 le w h1' hf hf2 ha
end Go.Proofs.Ytobicndpkojgiaa

/-! Te18i -/
namespace Go.Proofs.Ytobicndpkojgiaa
open Go.RowKit
set_option linter.unusedVariables false

/-- what was written of so many scalars, ahead of what is written of the others -/
def aheadP (j : Nat) (x : List Int) : List Int ⊕ Nat → List Int ⊕ Nat
  | .inl l => .inl (x ++ l)
  | .inr i => .inr (j + i)
theorem aheadP_nil (y : List Int ⊕ Nat) : aheadP 0 [] y = y := by cases y <;> simp [aheadP]
theorem aheadP_some {g c h : Int} {bs r x : List Int} {j : Nat} (ho : oneP g c = some (bs, h)) : aheadP j x (putF g (c :: r)) = aheadP (j + 1) (x ++ bs) (putF h r) := by
  rw [putF, ho]
  simp only
  cases putF h r with
  | inl l => simp [aheadP]
  | inr i => simp only [aheadP]; congr 1; omega
theorem aheadP_none {g c : Int} {r x : List Int} {j : Nat} (ho : oneP g c = none) : aheadP j x (putF g (c :: r)) = .inr j := by
  rw [putF, ho]
  simp [aheadP]
theorem one_more {g c h : Int} {bs : List Int} (hg : inI g = true) (ho : oneP g c = some (bs, h)) : 0 < bs.length ∧ inI h = true := by
  have hb : ∀ p, 0 < (bytP p).length := fun p => by unfold bytP; split <;> simp
  unfold oneP at ho
  split at ho
  · cases ho; exact ⟨by simp, hg⟩
  · split at ho
    · cases ho; exact ⟨hb _, hg⟩
    · split at ho
      · cases ho; exact ⟨by simp, hg⟩
      · split at ho
        · split at ho
          · cases ho; exact ⟨by simp, hg⟩
          · cases ho; exact ⟨by simp, by decide⟩
        · split at ho
          · rename_i hd
            obtain ⟨hm, -⟩ := fndI_mem (p := fun s => (findS16 s c).2) (l := tabSets) (eta2 hd : fndI (fun s => (findS16 s c).2) tabSets = ((fndI (fun s => (findS16 s c).2) tabSets).1, true))
            generalize fndI (fun s => (findS16 s c).2) tabSets = D at ho hm
            injection ho with ho
            simp only [Prod.mk.injEq] at ho
            obtain ⟨rfl, rfl⟩ := ho
            exact ⟨by rw [List.length_append]; have := hb (findS16 D.1 c).1; omega, set_inI (List.mem_append_left _ hm)⟩
          · cases ho
theorem MapP.none' {base : Nat} {v : Value} {M : Nat} {w : World} (h : MapP base v M w) {c g : Int} (hc : inI c = true) (hg : inI g = true) (ho : oneP g c = Option.none) :
    (Instr.lookup 52 (.map (some M)) (.agg #[.int .i64 c, .int .i64 g]) true).run Try.prog w = .ok (.tuple #[.agg #[.slice Option.none 0 0, .int .i64 0], .bool false]) w := by
  rcases h.look hc hg with h | ⟨x, h1, bs, h2, -⟩
  · exact h
  · rw [ho] at h2; cases h2
theorem MapP.some' {base : Nat} {v : Value} {M : Nat} {w : World} (h : MapP base v M w) {c g h0 : Int} {bs : List Int} (hc : inI c = true) (hg : inI g = true) (ho : oneP g c = Option.some (bs, h0)) :
    ∃ (ok : Bool) (a : Option Addr) (nn cp : Nat) (hh : Int), (Instr.lookup 52 (.map (Option.some M)) (.agg #[.int .i64 c, .int .i64 g]) true).run Try.prog w = .ok (.tuple #[.agg #[.slice a nn cp, .int .i64 hh], .bool ok]) w ∧ (ok = true → hh = h0 ∧ Own .u8 5 base w (.slice a nn cp) bs ∧ Apt v (.slice a nn cp)) := by
  rcases h.look hc hg with h | ⟨x, h1, bs', h2, h3, h4, h5⟩
  · exact ⟨false, Option.none, 0, 0, 0, h, fun h => by cases h⟩
  · rw [ho] at h2
    injection h2 with h2
    simp only [Prod.mk.injEq] at h2
    obtain ⟨rfl, rfl⟩ := h2
    obtain ⟨a, cp, rfl⟩ := h3.sl.form
    exact ⟨true, a, _, cp, _, h5, fun _ => ⟨rfl, h3, h4⟩⟩
theorem MapP.two {base : Nat} {v : Value} {M : Nat} {w : World} (h : MapP base v M w) {t : TypeId} {cs : List Value} {B : Nat} (hb : Box t cs B w) (ht : t ≠ 5) (x y : Value) : MapP base v M ((w.setCell ⟨B, 0, none⟩ x).setCell ⟨B, 1, none⟩ y) := by
  have hn : B ≠ M := fun e => by
    obtain ⟨es, clock, hm, -⟩ := h
    unfold Box at hb
    rw [e, hm] at hb
    cases hb
  refine h.move ?_ (fun z zs h1 h2 => ⟨far_two h1 hb ht x y, h2⟩)
  exact (Below.heap_setCell _ _ _ _ (fun e => hn e.symm)).trans (Below.heap_setCell _ _ _ _ (fun e => hn e.symm))
theorem apt_new {base B : Nat} {w w' : World} {v x : Value} {xs ys : List Int} (h : Own .u8 5 base w v xs) (hx : Own .u8 5 B w' x ys) (hB : w.heap.size ≤ B) : Apt v x := fun b h1 h2 => by
  have a := (World.ownsRow.lt h b h1).2
  have b' := (World.ownsRow.lt hx b h2).1
  omega
theorem Box.nomap {t : TypeId} {cs : List Value} {B M base : Nat} {v : Value} {w w' : World} (hb : Box t cs B w) (h : MapP base v M w) (hg : w.grownBy w' (some M)) : Box t cs B w' := by
  have hn : B ≠ M := fun e => by
    obtain ⟨es, clock, hm, -⟩ := h
    unfold Box at hb
    rw [e, hm] at hb
    cases hb
  exact (hg.block B hb.lt (fun e => hn (by injection e))).trans hb
theorem Box.far2 {t t' : TypeId} {cs cs' : List Value} {B B' : Nat} {w : World} (h : Box t cs B w) (hb : Box t' cs' B' w) (hn : B ≠ B') (x y : Value) : Box t cs B ((w.setCell ⟨B', 0, none⟩ x).setCell ⟨B', 1, none⟩ y) :=
  ((Below.heap_setCell _ _ _ _ hn).trans (Below.heap_setCell _ _ _ _ hn)).trans h
set_option maxHeartbeats 8000000 in
set_option maxRecDepth 100000 in
theorem tePut (HE : ShEscOk) : TPutOk := by
  intro v s w hs hall hl
  have HSL := hid hs
  obtain ⟨a1, cap1, rfl, q1, -, h1⟩ := hs
  obtain ⟨n, hn⟩ : ∃ n, n = s.length := ⟨_, rfl⟩
  have HN := hid hn
  have HC1 := hid h1
  have HALL := hid (fun j (h : j < n) => (show inI (s.getD j 0) = true from by
    have hj : j < s.length := by omega
    rw [List.getD_eq_getElem?_getD, List.getElem?_eq_getElem hj]
    exact List.all_eq_true.1 hall _ (List.getElem_mem hj)))
  rw [← hn] at q1 hl ⊢
  clear h1 hn hall HSL
  go_enter Try.func10, Try.ntmps10
  go_wp2_with (fail)
  simp only [run_makeMap, Result.andThen]
  go_wp2
  go_loopw [2, 3, 4, 6, 15] (fun bv rv ev gv iv wr => ∃ (j : Nat) (x : List Int) (g : Int), j ≤ n ∧ x.length ≤ 6 * j ∧ inI g = true ∧ rv = .int .i64 0 ∧ ev = .int .i64 0 ∧ gv = .int .i64 g ∧ iv = .int .i64 (j : Int) ∧ Hid (Own .u8 5 w.heap.size wr bv x) ∧ Hid (MapP w.heap.size bv w.heap.size wr) ∧ Hid (Below w.heap.size w wr) ∧ Hid (put18 s = aheadP j x (putF g (s.drop j)))) (fun _ _ _ _ iv _ => n - (intOf iv).toNat)
  case atStart => exact ⟨0, [], 102, Nat.zero_le _, by simp, by decide, rfl, rfl, rfl, rfl, Own.nil _ _ _ _, MapP.nil (heap_alloc_new w (.map #[] 0)), by (repeat (first | exact Below.refl _ _ | exact below_drewN _ | refine Below.drew ?_ | refine Below.alloc ?_ (by simp) _ | refine Below.setCell ?_ (by simp) _ | refine below_drewN' ?_ _)), (aheadP_nil _).symm⟩
  case round =>
    obtain ⟨j, x, g, hj, hxl, hg, rfl, rfl, rfl, rfl, hown, hmap, hbel, hput⟩ := hrel
    by_cases hlt : j < n
    · rcases HC1.out with hcc | ⟨b1, o1, rfl, hb1, hc⟩
      · omega
      have hb1' := hb1 (by have := HN.out; omega)
      have d1 := (hbel.out.cell (p := ⟨b1, o1 + j, none⟩) hb1').trans (hc j (by have := HN.out; omega))
      have HIC := hid (HALL.out j hlt)
      have hdr : s.drop j = s.getD j 0 :: s.drop (j + 1) := drop_getD rfl (by have := HN.out; omega)
      rw [hdr] at hput
      clear hc hb1 hb1' hdr
      generalize s.getD j 0 = c at d1 HIC hput
      have HIG := hid hg
      have HWR := hid (fun w => teWrite HE c g w)
      have HM1 := hid (hmap.out.below (Below.alloc (Below.refl _ _) (Nat.le_refl _) (.cells #[.int .i64 c, .int .i64 g] 54)))
      have HO1 := hid (hown.out.alloc (.cells #[.int .i64 c, .int .i64 g] 54))
      have hbs := hbel.out.size
      have HBS := hid (show w.heap.size ≤ (wr.alloc (.cells #[.int .i64 c, .int .i64 g] 54)).heap.size from by simp; omega)
      have HBP := hid (show w.heap.size ≤ wr.heap.size + 1 from by omega)
      have HNE := hid (show wr.heap.size ≠ wr.heap.size + 1 from by omega)
      clear hg hbs
      generalize ho : oneP g c = O
      have HON := hid ho
      cases O with
      | none =>
        have HP := hid (show put18 s = .inr j from by rw [hput.out]; exact aheadP_none ho)
        clear ho
        go_wp2_with (first | (at_lookup; go_loud (refine wpList_lookK rfl _ _ 52 rfl w.heap.size _ rfl rfl (MapP.none' HM1.out HIC.out HIG.out HON.out) ?_; have HT2 := hid ((Box.made wr 54 [.int .i64 c, .int .i64 g]).alloc (.cells #[.slice none 0 0, .int .i64 0] 56)); have HX2 := hid (box_last wr (.cells #[.int .i64 c, .int .i64 g] 54) 56 [.slice none 0 0, .int .i64 0]); have HM2 := hid (HM1.out.below (Below.alloc (Below.refl _ _) (Nat.le_refl _) (.cells #[.slice none 0 0, .int .i64 0] 56))); have HO2 := hid (HO1.out.alloc (.cells #[.slice none 0 0, .int .i64 0] 56)); have HB2 := hid (show Below w.heap.size w ((wr.alloc (.cells #[.int .i64 c, .int .i64 g] 54)).alloc (.cells #[.slice none 0 0, .int .i64 0] 56)) from (hbel.out.alloc hbel.out.size _).alloc (HBS.out) _))) | (go_at_call 25; go_loud (refine (HWR.out _).mono ?_; rw [HON.out]; rintro e w4 ⟨a4, n4, c4, h4, rfl, -, hb4⟩; have HB4 := hid (HB2.out.trans (hb4.mono HB2.out.size)); have HT4 := hid (HT2.out.below hb4 HT2.out.lt); have HX4 := hid (HX2.out.below hb4 HX2.out.lt); have x0 := HT4.out.cell 0; have x1 := HT4.out.cell 1; simp only [List.getElem?_cons_zero, List.getElem?_cons_succ] at x0 x1; have z0 := HX4.out.cell 0; have z1 := HX4.out.cell 1; have f0 := HX4.out.ice 0; have f1 := HX4.out.ice 1; simp only [List.getElem?_cons_zero, List.getElem?_cons_succ] at z0 z1; clear hb4)))
        go_ret3
        exact ⟨_, by rw [HP.out]; rfl, by rw [HP.out]; exact (Own.nil .u8 5 0 _).sl, below_two HB4.out HBP.out⟩
      | some y =>
        obtain ⟨bs, h⟩ := y
        have HP := hid (show put18 s = aheadP (j + 1) (x ++ bs) (putF h (s.drop (j + 1))) from by rw [hput.out]; exact aheadP_some ho)
        have hm := one_more HIG.out ho
        have HIH := hid hm.2
        have hu := (one_u8 ho).2
        have HBL := hid (And.intro hm.1 (show x.length + bs.length ≤ 700000 from by omega))
        have HXL := hid (show (x ++ bs).length ≤ 6 * (j + 1) from by rw [List.length_append]; omega)
        clear ho hm hu
        go_wp2_with (first | (at_lookup; go_loud (obtain ⟨ok, a2, n2, c2, hh, hlk, hit⟩ := MapP.some' HM1.out HIC.out HIG.out HON.out; refine wpList_lookK rfl _ _ 52 rfl w.heap.size _ rfl rfl hlk ?_; have HIT := hid (fun h => (⟨(hit h).1, ((hit h).2.1).alloc (.cells #[.slice a2 n2 c2, .int .i64 hh] 56), (hit h).2.2⟩ : _ ∧ _ ∧ _)); have HT2 := hid ((Box.made wr 54 [.int .i64 c, .int .i64 g]).alloc (.cells #[.slice a2 n2 c2, .int .i64 hh] 56)); have HX2 := hid (box_last wr (.cells #[.int .i64 c, .int .i64 g] 54) 56 [.slice a2 n2 c2, .int .i64 hh]); have HM2 := hid (HM1.out.below (Below.alloc (Below.refl _ _) (Nat.le_refl _) (.cells #[.slice a2 n2 c2, .int .i64 hh] 56))); have HO2 := hid (HO1.out.alloc (.cells #[.slice a2 n2 c2, .int .i64 hh] 56)); have HB2 := hid (show Below w.heap.size w ((wr.alloc (.cells #[.int .i64 c, .int .i64 g] 54)).alloc (.cells #[.slice a2 n2 c2, .int .i64 hh] 56)) from (hbel.out.alloc hbel.out.size _).alloc (HBS.out) _); clear hlk hit)) | (go_at_call 25; go_loud (refine (HWR.out _).mono ?_; rw [HON.out]; rintro e w4 ⟨a4, n4, c4, h4, rfl, ho4, hb4⟩; have hq4 := (ho4 _ _ rfl).2; obtain rfl := ((ho4 _ _ rfl).1).symm; have HA4 := hid (apt_new HO2.out hq4 (Nat.le_refl _)); have HN4 := hid (hq4.mono HB2.out.size); have HO4 := hid (HO2.out.below hb4); have HM4 := hid (HM2.out.below hb4); have HB4 := hid (HB2.out.trans (hb4.mono HB2.out.size)); have HT4 := hid (HT2.out.below hb4 HT2.out.lt); have HX4 := hid (HX2.out.below hb4 HX2.out.lt); have x0 := HT4.out.cell 0; have x1 := HT4.out.cell 1; simp only [List.getElem?_cons_zero, List.getElem?_cons_succ] at x0 x1; have z0 := HX4.out.cell 0; have z1 := HX4.out.cell 1; have f0 := HX4.out.ice 0; have f1 := HX4.out.ice 1; simp only [List.getElem?_cons_zero, List.getElem?_cons_succ] at z0 z1; have HX5 := hid (HX4.out.two (.slice a4 n4 c4) (.int .i64 h)); have HT5 := hid (HT4.out.far2 HX4.out HNE.out (.slice a4 n4 c4) (.int .i64 h)); have HM5 := hid (HM4.out.two HX4.out (by decide) (.slice a4 n4 c4) (.int .i64 h)); have HO5 := hid (far_two HO4.out HX4.out (by decide) (.slice a4 n4 c4) (.int .i64 h)); have HN5 := hid (far_two HN4.out HX4.out (by decide) (.slice a4 n4 c4) (.int .i64 h)); have HB5 := hid (below_two (a := .slice a4 n4 c4) (b := .int .i64 h) HB4.out (show w.heap.size ≤ wr.heap.size + 1 from HBP.out)); have y0 := HT5.out.cell 0; have y1 := HT5.out.cell 1; have y2 := HX5.out.cell 0; have y3 := HX5.out.cell 1; simp only [List.getElem?_cons_zero, List.getElem?_cons_succ] at y0 y1 y2 y3; clear hb4 ho4 hq4)) | (at_mapUpdate; go_loud (obtain ⟨w6, hst6, hg6, hm6⟩ := MapP.store (c := c) (g := g) HM5.out HIC.out HIG.out HON.out HN5.out HA4.out; refine wpList_storeK rfl _ _ _ 52 rfl w.heap.size (kv c g) (.agg #[.slice a4 n4 c4, .int .i64 h]) rfl rfl rfl hst6 ?_; have HM6 := hid hm6; have HX6 := hid (HX5.out.nomap HM5.out hg6); have HO6 := hid (show Own .u8 5 w.heap.size w6 _ x from World.ownsRow.kept HO5.out hg6 (.inr (HM5.out.noown HO5.out))); have HN6 := hid (show Own .u8 5 w.heap.size w6 (.slice a4 n4 c4) bs from World.ownsRow.kept HN5.out hg6 (.inr (HM5.out.noown HN5.out))); have HB6 := hid (HB5.out.grown hg6 HB5.out.size (fun k hk => by injection hk with hk; omega)); have z0 := HX6.out.cell 0; have z1 := HX6.out.cell 1; have f0 := HX6.out.ice 0; have f1 := HX6.out.ice 1; simp only [List.getElem?_cons_zero, List.getElem?_cons_succ] at z0 z1; clear hst6 hg6 hm6)) | (have _u := HM6; clear _u; at_builtin; go_loud (refine wpList_appI _ rfl _ _ 23 rfl .u8 w.heap.size 5 1 Try.underlying23 Try.infoU8 _ x bs rfl HO6.out (.slice a4 n4 c4) rfl (HN6.out).sl HBL.out.1 (by have := HBL.out.2; unfold maxLen; omega) (by have := HBL.out.2; omega) HB6.out.size ?_; intro g7 c7 w7 ho7 hg7 hb7 hx7; have HO7 := hid ho7; have HM7 := hid (HM6.out.move (hg7.block _ HM6.out.lt (fun e => HM6.out.noown HO6.out e.symm)) hx7); have HX7 := hid (HX6.out.grown HO6.out hg7 (by decide)); have HB7 := hid (HB6.out.trans hb7); have q0 := HX7.out.cell 0; have q1 := HX7.out.cell 1; simp only [List.getElem?_cons_zero, List.getElem?_cons_succ] at q0 q1; clear ho7 hg7 hb7 hx7)) | (have _u := HM2; clear _u; at_builtin; go_loud (have hok : ok = true := by {have hk := ‹(!ok) = false›; simpa using hk}; refine wpList_appI _ rfl _ _ 23 rfl .u8 w.heap.size 5 1 Try.underlying23 Try.infoU8 _ x bs rfl HO2.out (.slice a2 n2 c2) rfl ((HIT.out hok).2.1).sl HBL.out.1 (by have := HBL.out.2; unfold maxLen; omega) (by have := HBL.out.2; omega) HB2.out.size ?_; intro g7 c7 w7 ho7 hg7 hb7 hx7; have HO7 := hid ho7; have HM7 := hid (HM2.out.move (hg7.block _ HM2.out.lt (fun e => HM2.out.noown HO2.out e.symm)) hx7); have HX7 := hid (HX2.out.grown HO2.out hg7 (by decide)); have HB7 := hid (HB2.out.trans hb7); have q0 := HX7.out.cell 0; have q1 := HX7.out.cell 1; simp only [List.getElem?_cons_zero, List.getElem?_cons_succ] at q0 q1; clear ho7 hg7 hb7 hx7)))
        · go_roundw
          case rel => exact ⟨j + 1, x ++ bs, h, by omega, HXL.out, HIH.out, rfl, rfl, rfl, by go_num, HO7.out, HM7.out, HB7.out, HP.out⟩
          case measure => simp [intOf]; omega
        · obtain ⟨e7, -⟩ := HIT.out (by have hk := ‹(!ok) = false›; simpa using hk)
          subst e7
          go_roundw
          case rel => exact ⟨j + 1, x ++ bs, _, by omega, HXL.out, HIH.out, rfl, rfl, rfl, by go_num, HO7.out, HM7.out, HB7.out, HP.out⟩
          case measure => simp [intOf]; omega
    · obtain rfl : j = n := by omega
      have HB := hid (show put18 s = .inl x from by rw [hput.out, HN.out, List.drop_length]; simp [putF, aheadP])
      go_wp2
      go_ret3
      exact ⟨_, by rw [HB.out]; rfl, by rw [HB.out]; exact hown.out.sl, hbel.out⟩
end Go.Proofs.Ytobicndpkojgiaa

/-! Te18j -/
namespace Go.Proofs.Ytobicndpkojgiaa
open Go.RowKit
set_option linter.unusedVariables false

theorem ixS_any (p : Rg → Bool) : ∀ l : List Rg, decide (0 ≤ ixS p l) = l.any p
  | [] => by simp [ixS]
  | r :: l => by
    unfold ixS
    rw [List.any_cons, ← ixS_any p l]
    by_cases h : p r = true
    · rw [if_pos h, h]; simp
    · rw [if_neg h]
      have h' : p r = false := by simpa using h
      rw [h', Bool.false_or]
      by_cases h2 : ixS p l < 0
      · rw [if_pos h2, decide_eq_false (by omega), decide_eq_false (by omega)]
      · rw [if_neg h2, decide_eq_true (by omega), decide_eq_true (by omega)]
theorem idxL_mem (c : Int) : ∀ (l : List Int) (o : Int), 0 ≤ o → (0 ≤ idxL c l o ↔ c ∈ l)
  | [], o, h => by simp [idxL]
  | x :: l, o, h => by
    unfold idxL
    by_cases hx : (x == c) = true
    · rw [if_pos hx]
      have e : x = c := by simpa using hx
      simp [e, h]
    · rw [if_neg hx, idxL_mem c l (o + 1) (by omega)]
      have e : ¬ c = x := fun e => hx (by simp [e])
      simp [e]
theorem inL_mem (c : Int) (l : List Int) : inL c l = true ↔ c ∈ l := by
  unfold inL
  rw [decide_eq_true_iff]
  exact idxL_mem c l 0 (Int.le_refl _)
theorem fndS_any (p : Rg → Bool) : ∀ l : List Rg, (fndS p l).2 = l.any p
  | [] => rfl
  | r :: l => by
    unfold fndS
    rw [List.any_cons]
    by_cases h : p r = true
    · rw [if_pos h, h]; rfl
    · rw [if_neg h, fndS_any p l]
      have h' : p r = false := by simpa using h
      rw [h', Bool.false_or]
def codedB (c : Int) : Bool := tabCodes.any fun r => r.v == c && inL r.f (tabSets ++ [103])
theorem coded_eq (c : Int) : codedB c = ((findS16 103 c).2 || tabSets.any fun s => (findS16 s c).2) := by
  have hf : ∀ s, (findS16 s c).2 = true ↔ ∃ r ∈ tabCodes, r.f = s ∧ r.v = c := fun s => by
    unfold findS16
    rw [fndS_any, List.any_eq_true]
    constructor
    · rintro ⟨r, h1, h2⟩
      simp only [Bool.and_eq_true, beq_iff_eq] at h2
      exact ⟨r, h1, h2⟩
    · rintro ⟨r, h1, h2⟩
      exact ⟨r, h1, by simpa using h2⟩
  rw [Bool.eq_iff_iff, Bool.or_eq_true, List.any_eq_true]
  unfold codedB
  rw [List.any_eq_true]
  constructor
  · rintro ⟨r, h1, h2⟩
    simp only [Bool.and_eq_true, beq_iff_eq, inL_mem] at h2
    rcases List.mem_append.1 h2.2 with h | h
    · exact .inr ⟨r.f, h, (hf _).2 ⟨r, h1, rfl, h2.1⟩⟩
    · exact .inl ((hf _).2 ⟨r, h1, by simpa using h, h2.1⟩)
  · rintro (h | ⟨s, h1, h2⟩)
    · obtain ⟨r, h1, h2, h3⟩ := (hf _).1 h
      exact ⟨r, h1, by simp only [Bool.and_eq_true, beq_iff_eq, inL_mem]; exact ⟨h3, List.mem_append_right _ (by rw [h2]; simp)⟩⟩
    · obtain ⟨r, h3, h4, h5⟩ := (hf _).1 h2
      exact ⟨r, h3, by simp only [Bool.and_eq_true, beq_iff_eq, inL_mem]; exact ⟨h5, List.mem_append_left _ (by rw [h4]; exact h1)⟩⟩
theorem has_coded (c : Int) : has18 c = (ctlB c || (codedB c || (accS c).2.2)) := by
  unfold has18
  rw [coded_eq]
  cases ctlB c <;> cases (findS16 103 c).2 <;> cases (accS c).2.2 <;> simp

theorem teCddRule (B1 B2 : Nat) (v : Value) (L : List Int) (x a b c : Int) (w : World) (h1 : w.cell? ⟨B1, 0, none⟩ = some (.int .i64 x)) (h2 : w.cell? ⟨B2, 0, none⟩ = some v) (hs : Sl .i64 w v L) :
    Calls Try.prog 44 #[.agg #[.int .i64 a, .int .i64 b, .int .i64 c], .pointer (some ⟨B1, 0, none⟩), .pointer (some ⟨B2, 0, none⟩)] w fun e w' => e = .returned (.bool (c == x && inL a L)) ∧ Below w.heap.size w w' := by
  have hb0 : Below w.heap.size w (w.alloc (.cells #[.int .i64 a, .int .i64 b, .int .i64 c] 38)) := by (repeat (first | exact Below.refl _ _ | exact below_drewN _ | refine Below.drew ?_ | refine Below.alloc ?_ (by simp) _ | refine Below.setCell ?_ (by simp) _ | refine below_drewN' ?_ _))
  have HB0 := hid hb0
  have HS0 := hid (hs.below hb0)
  have x1 := (hb0.cell (p := ⟨B1, 0, none⟩) (World.block_lt_of_cell? w _ h1)).trans h1
  have x2 := (hb0.cell (p := ⟨B2, 0, none⟩) (World.block_lt_of_cell? w _ h2)).trans h2
  have HX := hid (Box.made w 38 [.int .i64 a, .int .i64 b, .int .i64 c])
  obtain ⟨a1, c1, rfl⟩ := hs.form
  obtain ⟨n, hn⟩ : ∃ n, n = L.length := ⟨_, rfl⟩
  rw [← hn] at HS0 x2
  have HC := hid (fun w h => slicesContains (.slice a1 n c1) L a w h)
  clear h1 h2 hb0 hs hn
  obtain ⟨q, hq⟩ : ∃ q, q = (c == x) := ⟨_, rfl⟩
  rw [← hq]
  replace hq := hq.symm
  generalize inL a L = k at HC ⊢
  cases q with
  | true =>
    go_enter Try.func44, Try.ntmps44
    go_wp2_with (go_at_call 45; go_loud (refine (HC.out _ HS0.out).mono ?_; rintro e w1 ⟨rfl, rfl⟩))
    go_ret
    exact ⟨by rw [Bool.true_and]; rfl, HB0.out⟩
  | false =>
    go_enter Try.func44, Try.ntmps44
    go_wp2_with (fail)
    go_ret
    exact ⟨rfl, HB0.out⟩
def RuleCdd (p : Rg → Bool) (B1 B2 : Nat) (w : World) : Prop := ∀ wr, Below w.heap.size w wr → ∀ a b c : Int, Calls Try.prog 44 #[.agg #[.int .i64 a, .int .i64 b, .int .i64 c], .pointer (some ⟨B1, 0, none⟩), .pointer (some ⟨B2, 0, none⟩)] wr fun e w' => e = .returned (.bool (p ⟨a, b, c⟩)) ∧ Below wr.heap.size wr w'
set_option maxHeartbeats 2000000 in
theorem teCddIdx (p : Rg → Bool) (B1 B2 : Nat) (v : Value) (l : List Rg) (w : World) (h : Sg w v l) (hd : RuleCdd p B1 B2 w) :
    Calls Try.prog 52 #[v, .func (.func 44) #[] #[.pointer (some ⟨B1, 0, none⟩), .pointer (some ⟨B2, 0, none⟩)]] w fun e w' => e = .returned (.int .i64 (ixS p l)) ∧ Below w.heap.size w w' := by
  have ml := h.len
  obtain ⟨a1, cap1, rfl, q1, -, h1⟩ := h
  obtain ⟨n, hn⟩ : ∃ n, n = l.length := ⟨_, rfl⟩
  obtain ⟨R, hR⟩ : ∃ R, R = ixS p l := ⟨_, rfl⟩
  have hH : ∀ k, k < n → (∀ i, i < k → p (l.getD i noRg) = false) → p (l.getD k noRg) = true → R = (k : Int) := fun k hk ha hh => hR.trans (ixS_hit (by omega) ha hh)
  have hN : (∀ i, i < n → p (l.getD i noRg) = false) → R = -1 := fun ha => hR.trans (ixS_none (by rw [← hn]; exact ha))
  rw [← hR]
  have HH := hid hH
  have HN := hid hN
  have H1 := hid h1
  have HD := hid hd
  rw [← hn] at ml q1 H1 ⊢
  clear hH hN h1 hn hR hd
  go_enter Try.func52, Try.ntmps52
  go_wp2_with (fail)
  go_loopw [8] (fun iv wr => ∃ k : Nat, k ≤ n ∧ iv = .int .i64 k ∧ Hid (Below w.heap.size w wr) ∧ Hid (∀ i, i < k → p (l.getD i noRg) = false)) (fun iv _ => n - (intOf iv).toNat)
  case atStart => exact ⟨0, by omega, rfl, Below.refl _ _, fun i hi => absurd hi (by omega)⟩
  case round =>
    obtain ⟨k, hk, rfl, hbel, hall⟩ := hrel
    by_cases hlt : k < n
    · rcases H1.out with hc | ⟨b1, o1, rfl, hb1, c1⟩
      · omega
      have hb1' := hb1 (by omega)
      obtain ⟨d1, d2, d3⟩ := c1 k hlt
      have d1 := (hbel.out.cell (p := ⟨b1, o1 + k * 3, none⟩) hb1').trans d1
      have d2 := (hbel.out.cell (p := ⟨b1, o1 + k * 3 + 1, none⟩) hb1').trans d2
      have d3 := (hbel.out.cell (p := ⟨b1, o1 + k * 3 + 2, none⟩) hb1').trans d3
      have hh := hid (HH.out k hlt hall.out)
      have HNX := hid (show p (l.getD k noRg) = false → ∀ i, i < k + 1 → p (l.getD i noRg) = false from fun he i hi => by
        rcases Nat.lt_or_ge i k with h | h
        · exact hall.out i h
        · obtain rfl : i = k := by omega
          exact he)
      clear c1
      generalize l.getD k noRg = r at d1 d2 d3 hh HNX
      obtain ⟨rf, rt, rv⟩ := r
      simp only at d1 d2 d3 hh HNX
      obtain ⟨b, hb⟩ : ∃ b, b = p ⟨rf, rt, rv⟩ := ⟨_, rfl⟩
      rw [← hb] at hh HNX
      have HC := hid (HD.out wr hbel.out rf rt rv)
      rw [← hb] at HC
      clear hb
      cases b with
      | true =>
        have hr := hid (hh.out rfl)
        go_wp2_with (go_at_call 44; refine HC.out.mono ?_; rintro e wu ⟨rfl, hbu⟩; have HBU := hid (hbel.out.trans (hbu.mono hbel.out.size)); clear hbu)
        go_ret
        exact ⟨by rw [hr.out]; rfl, HBU.out⟩
      | false =>
        have hr := hid (HNX.out rfl)
        go_wp2_with (go_at_call 44; refine HC.out.mono ?_; rintro e wu ⟨rfl, hbu⟩; have HBU := hid (hbel.out.trans (hbu.mono hbel.out.size)); clear hbu)
        go_roundw
        case rel => exact ⟨k + 1, by omega, by go_num, HBU.out, hr.out⟩
        case measure => simp [intOf]; omega
    · obtain rfl : k = n := by omega
      have hr := hid (HN.out hall.out)
      go_wp2_with (fail)
      go_ret
      exact ⟨by rw [hr.out]; rfl, hbel.out⟩

theorem teContains (p : Rg → Bool) (B1 B2 : Nat) (v : Value) (l : List Rg) (w : World) (h : Sg w v l) (hd : RuleCdd p B1 B2 w) :
    Calls Try.prog 43 #[v, .func (.func 44) #[] #[.pointer (some ⟨B1, 0, none⟩), .pointer (some ⟨B2, 0, none⟩)]] w fun e w' => e = .returned (.bool (l.any p)) ∧ Below w.heap.size w w' := by
  have HI := hid (teCddIdx p B1 B2 v l w h hd)
  rw [← ixS_any]
  generalize ixS p l = y at HI ⊢
  obtain ⟨b, hb⟩ : ∃ b, b = decide (0 ≤ y) := ⟨_, rfl⟩
  have HBB := hid hb
  rw [← hb]
  replace hb := hb.symm
  clear hd h
  go_enter Try.func43, Try.ntmps43
  go_wp2_with (go_at_call 52; refine HI.out.mono ?_; rintro e w1 ⟨rfl, hb1⟩; have HB1 := hid hb1; clear hb1)
  go_ret
  exact ⟨by first | rfl | (rw [hb]; rfl), HB1.out⟩
set_option maxHeartbeats 2000000 in
set_option maxRecDepth 10000 in
theorem teIsCoded (c : Int) (w : World) : Calls Try.prog 27 #[.int .i64 c] w fun e w' => e = .returned (.bool (codedB c)) ∧ Below w.heap.size w w' := by
  have HB0 := hid (show Below w.heap.size w (w.alloc (.cells #[.int .i64 c] 3)) from by (repeat (first | exact Below.refl _ _ | exact below_drewN _ | refine Below.drew ?_ | refine Below.alloc ?_ (by simp) _ | refine Below.setCell ?_ (by simp) _ | refine below_drewN' ?_ _)))
  have HX0 := hid (Box.made w 3 [.int .i64 c])
  have HSE := hid (fun w => apiSets w)
  have HCO := hid (fun w => apiCodes w)
  have HF := hid (fun (B2 : Nat) (w1 : World) (v u : Value) (h : Sg w1 v tabCodes) (hb : Box 3 [.int .i64 c] w.heap.size w1) (hb2 : Box 22 [u] B2 w1) (hs : Sl .i64 w1 u (tabSets ++ [103])) =>
    teContains (fun r => r.v == c && inL r.f (tabSets ++ [103])) w.heap.size B2 v tabCodes w1 h (fun wr hwr a b d => teCddRule _ _ u (tabSets ++ [103]) c a b d wr ((hwr.cell (World.block_lt_of_cell? _ _ (hb.cell 0))).trans (hb.cell 0)) ((hwr.cell (World.block_lt_of_cell? _ _ (hb2.cell 0))).trans (hb2.cell 0)) (hs.below hwr)))
  change ∀ (B2 : Nat) (w1 : World) (v u : Value) (h : Sg w1 v tabCodes) (hb : Box 3 [.int .i64 c] w.heap.size w1) (hb2 : Box 22 [u] B2 w1) (hs : Sl .i64 w1 u (tabSets ++ [103])), Calls Try.prog 43 #[v, .func (.func 44) #[] #[.pointer (some ⟨w.heap.size, 0, none⟩), .pointer (some ⟨B2, 0, none⟩)]] w1 fun e w' => e = .returned (.bool (codedB c)) ∧ Below w1.heap.size w1 w' at HF
  have HF := hid HF
  have hls : tabSets.length ≤ 100 := by decide
  generalize codedB c = k at HF ⊢
  generalize tabSets = S at HF HSE hls
  generalize tabCodes = T at HF HCO
  go_enter Try.func27, Try.ntmps27
  go_wp2_with (first
    | (go_at_call 24; refine (HSE.out _).mono ?_; rintro e w1 ⟨v1, rfl, ho1, hb1⟩; have HO1 := hid ho1; have HB1 := hid hb1; have HX1 := hid (HX0.out.below hb1 HX0.out.lt); clear ho1 hb1)
    | (at_builtin; go_loud (refine wpList_app _ rfl _ _ 22 rfl .i64 (w.alloc (.cells #[.int .i64 c] 3)).heap.size 3 8 Try.underlying22 Try.infoI64 v1 S [103] rfl (HO1.out.alloc _) _ rfl (one_sl (by first | simp | rfl)) (by unfold maxLen; simp; omega) (by simp; omega) (Nat.le_trans HB1.out.size (by simp)) ?_; intro v2 w2 ho2 hg2 hb2 hn2; have HB2 := hid ((HB1.out.alloc HB1.out.size _).trans hb2); have HX2 := hid ((HX1.out.alloc _).below hb2 HX0.out.lt); obtain ⟨a2, c2, hv2⟩ := ho2.sl.form; obtain ⟨n2, hn2'⟩ : ∃ n, n = (S ++ [103]).length := ⟨_, rfl⟩; rw [← hn2'] at hv2; subst hv2; have HS3 := hid (ho2.alloc (.cells #[.slice a2 n2 c2] 22)).sl; have HX3 := hid (HX2.out.alloc (.cells #[.slice a2 n2 c2] 22)); have HY3 := hid (show Box 22 [.slice a2 n2 c2] w2.heap.size (w2.alloc (.cells #[.slice a2 n2 c2] 22)) from Box.made w2 22 [.slice a2 n2 c2]); have HB3 := hid (HB2.out.alloc HB2.out.size (.cells #[.slice a2 n2 c2] 22)); clear ho2 hg2 hb2 hn2 hn2'))
    | (go_at_call 16; go_loud (refine (HCO.out _).mono ?_; rintro e w4 ⟨v4, rfl, ho4, hb4⟩; obtain ⟨a4, c4, hv4⟩ := ho4.form; obtain ⟨n4, hn4⟩ : ∃ n, n = T.length := ⟨_, rfl⟩; rw [← hn4] at hv4; subst hv4; have HO4 := hid ho4.sg; have HX4 := hid (HX3.out.below hb4 HX3.out.lt); have HY4 := hid (HY3.out.below hb4 HY3.out.lt); have HS4 := hid (HS3.out.below hb4); have HB4 := hid (HB3.out.trans (hb4.mono HB3.out.size)); clear ho4 hb4 hn4))
    | (go_at_call 43; go_loud (refine (HF.out _ _ _ _ HO4.out HX4.out HY4.out HS4.out).mono ?_; rintro e w5 ⟨rfl, hb5⟩; have HB5 := hid (HB4.out.trans (hb5.mono HB4.out.size)); clear hb5)))
  go_ret
  exact ⟨rfl, HB0.out.trans (HB5.out.mono HB0.out.size)⟩
set_option maxHeartbeats 1000000 in
theorem teHas : THasOk := by
  intro c w hi
  rw [has_coded]
  have HI := hid (fun w => teIsByte c w)
  have HC := hid (fun w => teIsCoded c w)
  have HA := hid (fun w => csAccent c w)
  generalize accS c = R at HA ⊢
  obtain ⟨p, le, k⟩ := R
  dsimp only at HA ⊢
  generalize codedB c = q at HC ⊢
  generalize ctlB c = b at HI ⊢
  cases b with
  | true =>
    go_enter Try.func11, Try.ntmps11
    go_wp2_with (go_at_call 26; refine (HI.out _).mono ?_; rintro e wi ⟨rfl, rfl⟩)
    go_ret
    exact ⟨rfl, Below.refl _ _⟩
  | false =>
    cases q with
    | true =>
      go_enter Try.func11, Try.ntmps11
      go_wp2_with (first | (go_at_call 26; refine (HI.out _).mono ?_; rintro e wi ⟨rfl, rfl⟩) | (go_at_call 27; refine (HC.out _).mono ?_; rintro e w1 ⟨rfl, hb1⟩; have HB1 := hid hb1; clear hb1))
      go_ret
      exact ⟨rfl, HB1.out⟩
    | false =>
      go_enter Try.func11, Try.ntmps11
      go_wp2_with (first | (go_at_call 26; refine (HI.out _).mono ?_; rintro e wi ⟨rfl, rfl⟩) | (go_at_call 27; refine (HC.out _).mono ?_; rintro e w1 ⟨rfl, hb1⟩; have HB1 := hid hb1; clear hb1) | (go_at_call 28; refine (HA.out _).mono ?_; rintro e w2 ⟨rfl, hb2⟩; have HB2 := hid (HB1.out.trans (hb2.mono HB1.out.size)); clear hb2))
      go_ret
      exact ⟨rfl, HB2.out⟩
end Go.Proofs.Ytobicndpkojgiaa

/-! Walks18 -/
namespace Go.Proofs.Ytobicndpkojgiaa
open Go.RowKit

theorem te18Wide : WideE := fun s w => csWide s w
theorem te18ByFin : ByFinE := fun f wide w => csByFinal f wide w
theorem te18Tok : ShTokOk := shTokens te18Wide te18ByFin
theorem te18Esc : ShEscOk := shEscape te18Wide
theorem te18Own : TReadOwn := teReadOwn te18Tok
theorem te18Read : TReadOk := te18Own.ok
theorem te18Put : TPutOk := tePut te18Esc
theorem te18Has : THasOk := teHas
theorem te18CWide : CWideOk := fun s w => (csWide s w).mono fun e w' h => ⟨h.1, by rw [← h.2]; exact Below.refl _ _⟩
theorem te18CGet : CGetOk := fun s p w _ _ => csGet s p w
theorem lawBack18 (v : Value) (s : List Int) (w : World) (h : Sl .i64 w v s) (hi : s.all inI = true) :
    Calls Try.prog 3 #[v] w fun e w' => e = .returned (.bool true) ∧ Below w.heap.size w w' := walkBack18 te18Read te18Put te18Has v s w h hi
theorem lawNormal18 (v : Value) (b : List Int) (w : World) (h : Sl .u8 w v b) (hu : U8 b) :
    Calls Try.prog 4 #[v] w fun e w' => e = .returned (.bool true) ∧ Below w.heap.size w w' := walkNormal18 te18Read te18Put te18Has v b w h hu
theorem lawHas18 (v : Value) (s : List Int) (w : World) (h : Sl .i64 w v s) (hi : s.all inI = true) :
    Calls Try.prog 5 #[v] w fun e w' => e = .returned (.bool true) ∧ Below w.heap.size w w' := walkHas18 te18Read te18Put te18Has v s w h hi
theorem lawPlain18 (v : Value) (l : List Int) (w : World) (h : Sl .i64 w v l) :
    Calls Try.prog 8 #[v] w fun e w' => e = .returned (.bool true) ∧ Below w.heap.size w w' := walkPlain18 te18Read te18Put te18Has v l w h
theorem lawPlaces18 (x y z : Int) (w : World) :
    Calls Try.prog 6 #[.int .i64 x, .int .i64 y, .int .i64 z] w fun e w' => e = .returned (.bool true) ∧ Below w.heap.size w w' := walkPlaces18 te18Own te18Put te18Has te18CWide te18CGet x y z w
theorem lawAccents18 (x y z : Int) (w : World) :
    Calls Try.prog 7 #[.int .i64 x, .int .i64 y, .int .i64 z] w fun e w' => e = .returned (.bool true) ∧ Below w.heap.size w w' := walkAccents18 te18Own te18Put te18Has x y z w
theorem lawDirect18 (x y : Int) (w : World) :
    Calls Try.prog 9 #[.int .i64 x, .int .i64 y] w fun e w' => e = .returned (.bool true) ∧ Below w.heap.size w w' := walkDirect18 te18Read te18Put te18Has x y w
end Go.Proofs.Ytobicndpkojgiaa
