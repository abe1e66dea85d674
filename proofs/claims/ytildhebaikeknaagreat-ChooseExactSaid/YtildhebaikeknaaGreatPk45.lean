/- Several texts in one: Cs16a, Cs16b, Cs16c. -/
import Derived.Test.YtildhebaikeknaaGreatPk16
import Derived.Test.YtildhebaikeknaaGreatPk25
import Derived.Test.YtildhebaikeknaaGreatPk3
import Derived.Test.YtildhebaikeknaaGreatPk1
import Derived.Test.YtildhebaikeknaaGreatPk15
/-! Cs16a -/
namespace Go.Proofs.YtildhebaikeknaaGreat
open Go.RowKit

theorem loadCd {a b c : Value} {B : Nat} {w : World} (h : Box 46 [a, b, c] B w) : (loadVar 46 ⟨B, 0, none⟩).run Tryz.prog w = .ok (.agg #[a, b, c]) w := by
  have k0 := h.cell 0
  have k1 := h.cell 1
  have k2 := h.cell 2
  simp only [List.getElem?_cons_zero, List.getElem?_cons_succ] at k0 k1 k2
  simp [go_sem, k0, k1, k2]
theorem csWide (s : Int) (w : World) : Calls Tryz.prog 81 #[.int .i64 s] w fun e w' => e = .returned (.bool (s == 87)) ∧ w = w' := by
  go_enter Tryz.func81, Tryz.ntmps81
  go_wp2_with (fail)
  go_ret
  exact ⟨rfl, rfl⟩
theorem csFindRule (B1 B2 : Nat) (s p a b c : Int) (w : World) (h1 : w.cell? ⟨B1, 0, none⟩ = some (.int .i64 s)) (h2 : w.cell? ⟨B2, 0, none⟩ = some (.int .i64 p)) :
    Calls Tryz.prog 80 #[.agg #[.int .i64 a, .int .i64 b, .int .i64 c], .pointer (some ⟨B1, 0, none⟩), .pointer (some ⟨B2, 0, none⟩)] w fun e w' => e = .returned (.bool (a == s && c == p)) ∧ Below w.heap.size w w' := by
  have hb0 : Below w.heap.size w (w.alloc (.cells #[.int .i64 a, .int .i64 b, .int .i64 c] 46)) := by (repeat (first | exact Below.refl _ _ | exact below_drewN _ | refine Below.drew ?_ | refine Below.alloc ?_ (by simp) _ | refine Below.setCell ?_ (by simp) _ | refine below_drewN' ?_ _))
  have HB0 := hid hb0
  have x1 := (hb0.cell (p := ⟨B1, 0, none⟩) (World.block_lt_of_cell? w _ h1)).trans h1
  have x2 := (hb0.cell (p := ⟨B2, 0, none⟩) (World.block_lt_of_cell? w _ h2)).trans h2
  clear h1 h2 hb0
  obtain ⟨q, hq⟩ : ∃ q, q = (a == s) := ⟨_, rfl⟩
  rw [← hq]
  replace hq := hq.symm
  cases q with
  | true =>
    go_enter Tryz.func80, Tryz.ntmps80
    go_wp2_with (fail)
    go_ret
    exact ⟨rfl, HB0.out⟩
  | false =>
    go_enter Tryz.func80, Tryz.ntmps80
    go_wp2_with (fail)
    go_ret
    exact ⟨rfl, HB0.out⟩
theorem csAccARule (B1 : Nat) (p a b c : Int) (w : World) (h1 : w.cell? ⟨B1, 0, none⟩ = some (.int .i64 p)) :
    Calls Tryz.prog 83 #[.agg #[.int .i64 a, .int .i64 b, .int .i64 c], .pointer (some ⟨B1, 0, none⟩)] w fun e w' => e = .returned (.bool (c == p)) ∧ Below w.heap.size w w' := by
  have hb0 : Below w.heap.size w (w.alloc (.cells #[.int .i64 a, .int .i64 b, .int .i64 c] 49)) := by (repeat (first | exact Below.refl _ _ | exact below_drewN _ | refine Below.drew ?_ | refine Below.alloc ?_ (by simp) _ | refine Below.setCell ?_ (by simp) _ | refine below_drewN' ?_ _))
  have HB0 := hid hb0
  have x1 := (hb0.cell (p := ⟨B1, 0, none⟩) (World.block_lt_of_cell? w _ h1)).trans h1
  clear h1 hb0
  go_enter Tryz.func83, Tryz.ntmps83
  go_wp2_with (fail)
  go_ret
  exact ⟨rfl, HB0.out⟩
theorem csOnLRule (B1 : Nat) (v : Value) (l : List Int) (a b c : Int) (w : World) (hl : l.length = 2) (h1 : w.cell? ⟨B1, 0, none⟩ = some v) (hs : Sl .i64 w v l) :
    Calls Tryz.prog 98 #[.agg #[.int .i64 a, .int .i64 b, .int .i64 c], .pointer (some ⟨B1, 0, none⟩)] w fun e w' => e = .returned (.bool (b == l.getD 1 0)) ∧ Below w.heap.size w w' := by
  have hb0 : Below w.heap.size w (w.alloc (.cells #[.int .i64 a, .int .i64 b, .int .i64 c] 49)) := by (repeat (first | exact Below.refl _ _ | exact below_drewN _ | refine Below.drew ?_ | refine Below.alloc ?_ (by simp) _ | refine Below.setCell ?_ (by simp) _ | refine below_drewN' ?_ _))
  have HB0 := hid hb0
  have x1 := (hb0.cell (p := ⟨B1, 0, none⟩) (World.block_lt_of_cell? w _ h1)).trans h1
  have HX := hid (Box.made w 49 [.int .i64 a, .int .i64 b, .int .i64 c])
  have y1 := HX.out.cell 1
  simp only [List.getElem?_cons_zero, List.getElem?_cons_succ] at y1
  obtain ⟨a1, cap1, rfl, q1, -, hc⟩ := hs
  rcases hc with hc | ⟨b1, o1, rfl, hb1, c1⟩
  · omega
  have d1 := (hb0.cell (p := ⟨b1, o1 + 1, none⟩) (hb1 (by omega))).trans (c1 1 (by omega))
  rw [hl] at x1 q1
  generalize l.getD 1 0 = y at d1 ⊢
  clear h1 hb0 c1 hb1 hl
  go_enter Tryz.func98, Tryz.ntmps98
  go_wp2
  generalize w.alloc (.cells #[.int .i64 a, .int .i64 b, .int .i64 c] 49) = W at *
  go_quiet (fail)
  go_wp2
  go_ret
  exact ⟨rfl, below_drewN' HB0.out _⟩
end Go.Proofs.YtildhebaikeknaaGreat

/-! Cs16b -/
namespace Go.Proofs.YtildhebaikeknaaGreat
open Go.RowKit

def RuleFind (p : Rg → Bool) (B1 B2 : Nat) (w : World) : Prop := ∀ wr, Below w.heap.size w wr → ∀ a b c : Int, Calls Tryz.prog 80 #[.agg #[.int .i64 a, .int .i64 b, .int .i64 c], .pointer (some ⟨B1, 0, none⟩), .pointer (some ⟨B2, 0, none⟩)] wr fun e w' => e = .returned (.bool (p ⟨a, b, c⟩)) ∧ Below wr.heap.size wr w'
set_option maxHeartbeats 2000000 in
theorem csFindIdx (p : Rg → Bool) (B1 B2 : Nat) (v : Value) (l : List Rg) (w : World) (h : Sg w v l) (hd : RuleFind p B1 B2 w) :
    Calls Tryz.prog 94 #[v, .func (.func 80) #[] #[.pointer (some ⟨B1, 0, none⟩), .pointer (some ⟨B2, 0, none⟩)]] w fun e w' => e = .returned (.int .i64 (ixS p l)) ∧ Below w.heap.size w w' := by
  have ml := h.len
  obtain ⟨a1, cap1, rfl, q1, -, h1⟩ := h
  obtain ⟨n, hn⟩ : ∃ n, n = l.length := ⟨_, rfl⟩
  obtain ⟨R, hR⟩ : ∃ R, R = ixS p l := ⟨_, rfl⟩
  have hH : ∀ k, k < n → (∀ i, i < k → p (l.getD i noRg) = false) → p (l.getD k noRg) = true → R = (k : Int) := fun k hk ha hh => hR.trans (ixS_hit (by omega) ha hh)
  have hN : (∀ i, i < n → p (l.getD i noRg) = false) → R = -1 := fun ha => hR.trans (ixS_none (by rw [← hn]; exact ha))
  rw [← hR]
  have HH := hid hH
  have HN := hid hN
  have H1 := hid h1
  have HD := hid hd
  rw [← hn] at ml q1 H1 ⊢
  clear hH hN h1 hn hR hd
  go_enter Tryz.func94, Tryz.ntmps94
  go_wp2_with (fail)
  go_loopw [8] (fun iv wr => ∃ k : Nat, k ≤ n ∧ iv = .int .i64 k ∧ Hid (Below w.heap.size w wr) ∧ Hid (∀ i, i < k → p (l.getD i noRg) = false)) (fun iv _ => n - (intOf iv).toNat)
  case atStart => exact ⟨0, by omega, rfl, Below.refl _ _, fun i hi => absurd hi (by omega)⟩
  case round =>
    obtain ⟨k, hk, rfl, hbel, hall⟩ := hrel
    by_cases hlt : k < n
    · rcases H1.out with hc | ⟨b1, o1, rfl, hb1, c1⟩
      · omega
      have hb1' := hb1 (by omega)
      obtain ⟨d1, d2, d3⟩ := c1 k hlt
      have d1 := (hbel.out.cell (p := ⟨b1, o1 + k * 3, none⟩) hb1').trans d1
      have d2 := (hbel.out.cell (p := ⟨b1, o1 + k * 3 + 1, none⟩) hb1').trans d2
      have d3 := (hbel.out.cell (p := ⟨b1, o1 + k * 3 + 2, none⟩) hb1').trans d3
      have hh := hid (HH.out k hlt hall.out)
      have HNX := hid (show p (l.getD k noRg) = false → ∀ i, i < k + 1 → p (l.getD i noRg) = false from fun he i hi => by
        rcases Nat.lt_or_ge i k with h | h
        · exact hall.out i h
        · obtain rfl : i = k := by omega
          exact he)
      clear c1
      generalize l.getD k noRg = r at d1 d2 d3 hh HNX
      obtain ⟨rf, rt, rv⟩ := r
      simp only at d1 d2 d3 hh HNX
      obtain ⟨b, hb⟩ : ∃ b, b = p ⟨rf, rt, rv⟩ := ⟨_, rfl⟩
      rw [← hb] at hh HNX
      have HC := hid (HD.out wr hbel.out rf rt rv)
      rw [← hb] at HC
      clear hb
      cases b with
      | true =>
        have hr := hid (hh.out rfl)
        go_wp2_with (go_at_call 80; refine HC.out.mono ?_; rintro e wu ⟨rfl, hbu⟩; have HBU := hid (hbel.out.trans (hbu.mono hbel.out.size)); clear hbu)
        go_ret
        exact ⟨by rw [hr.out]; rfl, HBU.out⟩
      | false =>
        have hr := hid (HNX.out rfl)
        go_wp2_with (go_at_call 80; refine HC.out.mono ?_; rintro e wu ⟨rfl, hbu⟩; have HBU := hid (hbel.out.trans (hbu.mono hbel.out.size)); clear hbu)
        go_roundw
        case rel => exact ⟨k + 1, by omega, by go_num, HBU.out, hr.out⟩
        case measure => simp [intOf]; omega
    · obtain rfl : k = n := by omega
      have hr := hid (HN.out hall.out)
      go_wp2_with (fail)
      go_ret
      exact ⟨by rw [hr.out]; rfl, hbel.out⟩
set_option maxHeartbeats 2000000 in
theorem csFindFirst (p : Rg → Bool) (B1 B2 : Nat) (v : Value) (l : List Rg) (w : World) (h : Sg w v l) (hd : RuleFind p B1 B2 w) :
    Calls Tryz.prog 79 #[v, .func (.func 80) #[] #[.pointer (some ⟨B1, 0, none⟩), .pointer (some ⟨B2, 0, none⟩)]] w fun e w' => e = .returned (.tuple #[.agg #[.int .i64 (fndS p l).1.f, .int .i64 (fndS p l).1.t, .int .i64 (fndS p l).1.v], .bool (fndS p l).2]) ∧ Below w.heap.size w w' := by
  have hb0 : Below w.heap.size w (w.alloc (.cells #[.int .i64 0, .int .i64 0, .int .i64 0] 46)) := by (repeat (first | exact Below.refl _ _ | exact below_drewN _ | refine Below.drew ?_ | refine Below.alloc ?_ (by simp) _ | refine Below.setCell ?_ (by simp) _ | refine below_drewN' ?_ _))
  have HB0 := hid hb0
  have HX := hid (Box.made w 46 [.int .i64 0, .int .i64 0, .int .i64 0])
  have HI := hid (csFindIdx p B1 B2 v l _ (h.below hb0) (fun wr hwr a b c => hd wr (hb0.trans (hwr.mono hb0.size)) a b c))
  have HS := hid (h.below hb0)
  have ml := h.len
  clear hd hb0
  rcases first_or (p := p) l with ⟨k, hk, ha, hp⟩ | hn
  · rw [ixS_hit hk ha hp] at HI
    rw [fndS_hit (p := p) hk ha hp]
    clear ha hp
    obtain ⟨a1, cap1, rfl, q1, -, h1⟩ := h
    rcases h1 with hc | ⟨b1, o1, rfl, hb1, c1⟩
    · omega
    obtain ⟨d1, d2, d3⟩ := c1 k hk
    have D1 := hid d1
    have D2 := hid d2
    have D3 := hid d3
    have hb1' := hb1 (by omega)
    have hneg : decide ((k : Int) < 0) = false := by simp
    generalize l.getD k noRg = r at D1 D2 D3 ⊢
    obtain ⟨rf, rt, rv⟩ := r
    simp only at D1 D2 D3 ⊢
    generalize l.length = n at *
    clear d1 d2 d3 c1 HS hb1
    go_enter Tryz.func79, Tryz.ntmps79
    go_wp2_with (go_at_call 94; refine HI.out.mono ?_; rintro e w1 ⟨rfl, hb1⟩; have HB1 := hid (HB0.out.trans (hb1.mono HB0.out.size)); have HX1 := hid (HX.out.below hb1 HX.out.lt); have g1 := (HB1.out.cell (p := ⟨b1, o1 + k * 3, none⟩) hb1').trans D1.out; have g2 := (HB1.out.cell (p := ⟨b1, o1 + k * 3 + 1, none⟩) hb1').trans D2.out; have g3 := (HB1.out.cell (p := ⟨b1, o1 + k * 3 + 2, none⟩) hb1').trans D3.out; have z0 := HX1.out.ice 0; have z1 := HX1.out.ice 1; have z2 := HX1.out.ice 2; have y0 := HX1.out.cell 0; have y1 := HX1.out.cell 1; have y2 := HX1.out.cell 2; simp only [List.getElem?_cons_zero, List.getElem?_cons_succ] at y0 y1 y2; clear hb1)
    refine bodyPost_ret (results_two rfl rfl (loadCd (HX1.out.three _ _ _))) rfl ⟨rfl, below_three HB1.out (Nat.le_refl _)⟩
  · rw [ixS_none hn] at HI
    rw [fndS_none (p := p) hn]
    clear hn HS
    obtain ⟨a1, cap1, rfl, q1, -, -⟩ := h
    generalize l.length = n at *
    go_enter Tryz.func79, Tryz.ntmps79
    go_wp2_with (go_at_call 94; refine HI.out.mono ?_; rintro e w1 ⟨rfl, hb1⟩; have HB1 := hid (HB0.out.trans (hb1.mono HB0.out.size)); have HX1 := hid ((HX.out.below hb1 HX.out.lt).alloc (.cells #[.int .i64 0, .int .i64 0, .int .i64 0] 46)); have z0 := HX1.out.ice 0; have z1 := HX1.out.ice 1; have z2 := HX1.out.ice 2; have y0 := HX1.out.cell 0; have y1 := HX1.out.cell 1; have y2 := HX1.out.cell 2; simp only [List.getElem?_cons_zero, List.getElem?_cons_succ] at y0 y1 y2; clear hb1)
    refine bodyPost_ret (results_two rfl rfl (loadCd (HX1.out.three _ _ _))) rfl ⟨rfl, below_three (HB1.out.alloc HB1.out.size _) (Nat.le_refl _)⟩
end Go.Proofs.YtildhebaikeknaaGreat

/-! Cs16c -/
namespace Go.Proofs.YtildhebaikeknaaGreat
open Go.RowKit

def RuleAccA (p : Rg → Bool) (B1 : Nat) (w : World) : Prop := ∀ wr, Below w.heap.size w wr → ∀ a b c : Int, Calls Tryz.prog 83 #[.agg #[.int .i64 a, .int .i64 b, .int .i64 c], .pointer (some ⟨B1, 0, none⟩)] wr fun e w' => e = .returned (.bool (p ⟨a, b, c⟩)) ∧ Below wr.heap.size wr w'
set_option maxHeartbeats 2000000 in
theorem csAccAIdx (p : Rg → Bool) (B1 : Nat) (v : Value) (l : List Rg) (w : World) (h : Sg w v l) (hd : RuleAccA p B1 w) :
    Calls Tryz.prog 95 #[v, .func (.func 83) #[] #[.pointer (some ⟨B1, 0, none⟩)]] w fun e w' => e = .returned (.int .i64 (ixS p l)) ∧ Below w.heap.size w w' := by
  have ml := h.len
  obtain ⟨a1, cap1, rfl, q1, -, h1⟩ := h
  obtain ⟨n, hn⟩ : ∃ n, n = l.length := ⟨_, rfl⟩
  obtain ⟨R, hR⟩ : ∃ R, R = ixS p l := ⟨_, rfl⟩
  have hH : ∀ k, k < n → (∀ i, i < k → p (l.getD i noRg) = false) → p (l.getD k noRg) = true → R = (k : Int) := fun k hk ha hh => hR.trans (ixS_hit (by omega) ha hh)
  have hN : (∀ i, i < n → p (l.getD i noRg) = false) → R = -1 := fun ha => hR.trans (ixS_none (by rw [← hn]; exact ha))
  rw [← hR]
  have HH := hid hH
  have HN := hid hN
  have H1 := hid h1
  have HD := hid hd
  rw [← hn] at ml q1 H1 ⊢
  clear hH hN h1 hn hR hd
  go_enter Tryz.func95, Tryz.ntmps95
  go_wp2_with (fail)
  go_loopw [8] (fun iv wr => ∃ k : Nat, k ≤ n ∧ iv = .int .i64 k ∧ Hid (Below w.heap.size w wr) ∧ Hid (∀ i, i < k → p (l.getD i noRg) = false)) (fun iv _ => n - (intOf iv).toNat)
  case atStart => exact ⟨0, by omega, rfl, Below.refl _ _, fun i hi => absurd hi (by omega)⟩
  case round =>
    obtain ⟨k, hk, rfl, hbel, hall⟩ := hrel
    by_cases hlt : k < n
    · rcases H1.out with hc | ⟨b1, o1, rfl, hb1, c1⟩
      · omega
      have hb1' := hb1 (by omega)
      obtain ⟨d1, d2, d3⟩ := c1 k hlt
      have d1 := (hbel.out.cell (p := ⟨b1, o1 + k * 3, none⟩) hb1').trans d1
      have d2 := (hbel.out.cell (p := ⟨b1, o1 + k * 3 + 1, none⟩) hb1').trans d2
      have d3 := (hbel.out.cell (p := ⟨b1, o1 + k * 3 + 2, none⟩) hb1').trans d3
      have hh := hid (HH.out k hlt hall.out)
      have HNX := hid (show p (l.getD k noRg) = false → ∀ i, i < k + 1 → p (l.getD i noRg) = false from fun he i hi => by
        rcases Nat.lt_or_ge i k with h | h
        · exact hall.out i h
        · obtain rfl : i = k := by omega
          exact he)
      clear c1
      generalize l.getD k noRg = r at d1 d2 d3 hh HNX
      obtain ⟨rf, rt, rv⟩ := r
      simp only at d1 d2 d3 hh HNX
      obtain ⟨b, hb⟩ : ∃ b, b = p ⟨rf, rt, rv⟩ := ⟨_, rfl⟩
      rw [← hb] at hh HNX
      have HC := hid (HD.out wr hbel.out rf rt rv)
      rw [← hb] at HC
      clear hb
      cases b with
      | true =>
        have hr := hid (hh.out rfl)
        go_wp2_with (go_at_call 83; refine HC.out.mono ?_; rintro e wu ⟨rfl, hbu⟩; have HBU := hid (hbel.out.trans (hbu.mono hbel.out.size)); clear hbu)
        go_ret
        exact ⟨by rw [hr.out]; rfl, HBU.out⟩
      | false =>
        have hr := hid (HNX.out rfl)
        go_wp2_with (go_at_call 83; refine HC.out.mono ?_; rintro e wu ⟨rfl, hbu⟩; have HBU := hid (hbel.out.trans (hbu.mono hbel.out.size)); clear hbu)
        go_roundw
        case rel => exact ⟨k + 1, by omega, by go_num, HBU.out, hr.out⟩
        case measure => simp [intOf]; omega
    · obtain rfl : k = n := by omega
      have hr := hid (HN.out hall.out)
      go_wp2_with (fail)
      go_ret
      exact ⟨by rw [hr.out]; rfl, hbel.out⟩
set_option maxHeartbeats 2000000 in
theorem csAccAFirst (p : Rg → Bool) (B1 : Nat) (v : Value) (l : List Rg) (w : World) (h : Sg w v l) (hd : RuleAccA p B1 w) :
    Calls Tryz.prog 82 #[v, .func (.func 83) #[] #[.pointer (some ⟨B1, 0, none⟩)]] w fun e w' => e = .returned (.tuple #[.agg #[.int .i64 (fndS p l).1.f, .int .i64 (fndS p l).1.t, .int .i64 (fndS p l).1.v], .bool (fndS p l).2]) ∧ Below w.heap.size w w' := by
  have hb0 : Below w.heap.size w (w.alloc (.cells #[.int .i64 0, .int .i64 0, .int .i64 0] 49)) := by (repeat (first | exact Below.refl _ _ | exact below_drewN _ | refine Below.drew ?_ | refine Below.alloc ?_ (by simp) _ | refine Below.setCell ?_ (by simp) _ | refine below_drewN' ?_ _))
  have HB0 := hid hb0
  have HX := hid (Box.made w 49 [.int .i64 0, .int .i64 0, .int .i64 0])
  have HI := hid (csAccAIdx p B1 v l _ (h.below hb0) (fun wr hwr a b c => hd wr (hb0.trans (hwr.mono hb0.size)) a b c))
  have HS := hid (h.below hb0)
  have ml := h.len
  clear hd hb0
  rcases first_or (p := p) l with ⟨k, hk, ha, hp⟩ | hn
  · rw [ixS_hit hk ha hp] at HI
    rw [fndS_hit (p := p) hk ha hp]
    clear ha hp
    obtain ⟨a1, cap1, rfl, q1, -, h1⟩ := h
    rcases h1 with hc | ⟨b1, o1, rfl, hb1, c1⟩
    · omega
    obtain ⟨d1, d2, d3⟩ := c1 k hk
    have D1 := hid d1
    have D2 := hid d2
    have D3 := hid d3
    have hb1' := hb1 (by omega)
    have hneg : decide ((k : Int) < 0) = false := by simp
    generalize l.getD k noRg = r at D1 D2 D3 ⊢
    obtain ⟨rf, rt, rv⟩ := r
    simp only at D1 D2 D3 ⊢
    generalize l.length = n at *
    clear d1 d2 d3 c1 HS hb1
    go_enter Tryz.func82, Tryz.ntmps82
    go_wp2_with (go_at_call 95; refine HI.out.mono ?_; rintro e w1 ⟨rfl, hb1⟩; have HB1 := hid (HB0.out.trans (hb1.mono HB0.out.size)); have HX1 := hid (HX.out.below hb1 HX.out.lt); have g1 := (HB1.out.cell (p := ⟨b1, o1 + k * 3, none⟩) hb1').trans D1.out; have g2 := (HB1.out.cell (p := ⟨b1, o1 + k * 3 + 1, none⟩) hb1').trans D2.out; have g3 := (HB1.out.cell (p := ⟨b1, o1 + k * 3 + 2, none⟩) hb1').trans D3.out; have z0 := HX1.out.ice 0; have z1 := HX1.out.ice 1; have z2 := HX1.out.ice 2; have y0 := HX1.out.cell 0; have y1 := HX1.out.cell 1; have y2 := HX1.out.cell 2; simp only [List.getElem?_cons_zero, List.getElem?_cons_succ] at y0 y1 y2; clear hb1)
    refine bodyPost_ret (results_two rfl rfl (loadC3 (HX1.out.three _ _ _))) rfl ⟨rfl, below_three HB1.out (Nat.le_refl _)⟩
  · rw [ixS_none hn] at HI
    rw [fndS_none (p := p) hn]
    clear hn HS
    obtain ⟨a1, cap1, rfl, q1, -, -⟩ := h
    generalize l.length = n at *
    go_enter Tryz.func82, Tryz.ntmps82
    go_wp2_with (go_at_call 95; refine HI.out.mono ?_; rintro e w1 ⟨rfl, hb1⟩; have HB1 := hid (HB0.out.trans (hb1.mono HB0.out.size)); have HX1 := hid ((HX.out.below hb1 HX.out.lt).alloc (.cells #[.int .i64 0, .int .i64 0, .int .i64 0] 49)); have z0 := HX1.out.ice 0; have z1 := HX1.out.ice 1; have z2 := HX1.out.ice 2; have y0 := HX1.out.cell 0; have y1 := HX1.out.cell 1; have y2 := HX1.out.cell 2; simp only [List.getElem?_cons_zero, List.getElem?_cons_succ] at y0 y1 y2; clear hb1)
    refine bodyPost_ret (results_two rfl rfl (loadC3 (HX1.out.three _ _ _))) rfl ⟨rfl, below_three (HB1.out.alloc HB1.out.size _) (Nat.le_refl _)⟩
def RuleOnL (p : Rg → Bool) (B1 : Nat) (w : World) : Prop := ∀ wr, Below w.heap.size w wr → ∀ a b c : Int, Calls Tryz.prog 98 #[.agg #[.int .i64 a, .int .i64 b, .int .i64 c], .pointer (some ⟨B1, 0, none⟩)] wr fun e w' => e = .returned (.bool (p ⟨a, b, c⟩)) ∧ Below wr.heap.size wr w'
set_option maxHeartbeats 2000000 in
theorem csOnLIdx (p : Rg → Bool) (B1 : Nat) (v : Value) (l : List Rg) (w : World) (h : Sg w v l) (hd : RuleOnL p B1 w) :
    Calls Tryz.prog 95 #[v, .func (.func 98) #[] #[.pointer (some ⟨B1, 0, none⟩)]] w fun e w' => e = .returned (.int .i64 (ixS p l)) ∧ Below w.heap.size w w' := by
  have ml := h.len
  obtain ⟨a1, cap1, rfl, q1, -, h1⟩ := h
  obtain ⟨n, hn⟩ : ∃ n, n = l.length := ⟨_, rfl⟩
  obtain ⟨R, hR⟩ : ∃ R, R = ixS p l := ⟨_, rfl⟩
  have hH : ∀ k, k < n → (∀ i, i < k → p (l.getD i noRg) = false) → p (l.getD k noRg) = true → R = (k : Int) := fun k hk ha hh => hR.trans (ixS_hit (by omega) ha hh)
  have hN : (∀ i, i < n → p (l.getD i noRg) = false) → R = -1 := fun ha => hR.trans (ixS_none (by rw [← hn]; exact ha))
  rw [← hR]
  have HH := hid hH
  have HN := hid hN
  have H1 := hid h1
  have HD := hid hd
  rw [← hn] at ml q1 H1 ⊢
  clear hH hN h1 hn hR hd
  go_enter Tryz.func95, Tryz.ntmps95
  go_wp2_with (fail)
  go_loopw [8] (fun iv wr => ∃ k : Nat, k ≤ n ∧ iv = .int .i64 k ∧ Hid (Below w.heap.size w wr) ∧ Hid (∀ i, i < k → p (l.getD i noRg) = false)) (fun iv _ => n - (intOf iv).toNat)
  case atStart => exact ⟨0, by omega, rfl, Below.refl _ _, fun i hi => absurd hi (by omega)⟩
  case round =>
    obtain ⟨k, hk, rfl, hbel, hall⟩ := hrel
    by_cases hlt : k < n
    · rcases H1.out with hc | ⟨b1, o1, rfl, hb1, c1⟩
      · omega
      have hb1' := hb1 (by omega)
      obtain ⟨d1, d2, d3⟩ := c1 k hlt
      have d1 := (hbel.out.cell (p := ⟨b1, o1 + k * 3, none⟩) hb1').trans d1
      have d2 := (hbel.out.cell (p := ⟨b1, o1 + k * 3 + 1, none⟩) hb1').trans d2
      have d3 := (hbel.out.cell (p := ⟨b1, o1 + k * 3 + 2, none⟩) hb1').trans d3
      have hh := hid (HH.out k hlt hall.out)
      have HNX := hid (show p (l.getD k noRg) = false → ∀ i, i < k + 1 → p (l.getD i noRg) = false from fun he i hi => by
        rcases Nat.lt_or_ge i k with h | h
        · exact hall.out i h
        · obtain rfl : i = k := by omega
          exact he)
      clear c1
      generalize l.getD k noRg = r at d1 d2 d3 hh HNX
      obtain ⟨rf, rt, rv⟩ := r
      simp only at d1 d2 d3 hh HNX
      obtain ⟨b, hb⟩ : ∃ b, b = p ⟨rf, rt, rv⟩ := ⟨_, rfl⟩
      rw [← hb] at hh HNX
      have HC := hid (HD.out wr hbel.out rf rt rv)
      rw [← hb] at HC
      clear hb
      cases b with
      | true =>
        have hr := hid (hh.out rfl)
        go_wp2_with (go_at_call 98; refine HC.out.mono ?_; rintro e wu ⟨rfl, hbu⟩; have HBU := hid (hbel.out.trans (hbu.mono hbel.out.size)); clear hbu)
        go_ret
        exact ⟨by rw [hr.out]; rfl, HBU.out⟩
      | false =>
        have hr := hid (HNX.out rfl)
        go_wp2_with (go_at_call 98; refine HC.out.mono ?_; rintro e wu ⟨rfl, hbu⟩; have HBU := hid (hbel.out.trans (hbu.mono hbel.out.size)); clear hbu)
        go_roundw
        case rel => exact ⟨k + 1, by omega, by go_num, HBU.out, hr.out⟩
        case measure => simp [intOf]; omega
    · obtain rfl : k = n := by omega
      have hr := hid (HN.out hall.out)
      go_wp2_with (fail)
      go_ret
      exact ⟨by rw [hr.out]; rfl, hbel.out⟩
set_option maxHeartbeats 2000000 in
theorem csOnLFirst (p : Rg → Bool) (B1 : Nat) (v : Value) (l : List Rg) (w : World) (h : Sg w v l) (hd : RuleOnL p B1 w) :
    Calls Tryz.prog 82 #[v, .func (.func 98) #[] #[.pointer (some ⟨B1, 0, none⟩)]] w fun e w' => e = .returned (.tuple #[.agg #[.int .i64 (fndS p l).1.f, .int .i64 (fndS p l).1.t, .int .i64 (fndS p l).1.v], .bool (fndS p l).2]) ∧ Below w.heap.size w w' := by
  have hb0 : Below w.heap.size w (w.alloc (.cells #[.int .i64 0, .int .i64 0, .int .i64 0] 49)) := by (repeat (first | exact Below.refl _ _ | exact below_drewN _ | refine Below.drew ?_ | refine Below.alloc ?_ (by simp) _ | refine Below.setCell ?_ (by simp) _ | refine below_drewN' ?_ _))
  have HB0 := hid hb0
  have HX := hid (Box.made w 49 [.int .i64 0, .int .i64 0, .int .i64 0])
  have HI := hid (csOnLIdx p B1 v l _ (h.below hb0) (fun wr hwr a b c => hd wr (hb0.trans (hwr.mono hb0.size)) a b c))
  have HS := hid (h.below hb0)
  have ml := h.len
  clear hd hb0
  rcases first_or (p := p) l with ⟨k, hk, ha, hp⟩ | hn
  · rw [ixS_hit hk ha hp] at HI
    rw [fndS_hit (p := p) hk ha hp]
    clear ha hp
    obtain ⟨a1, cap1, rfl, q1, -, h1⟩ := h
    rcases h1 with hc | ⟨b1, o1, rfl, hb1, c1⟩
    · omega
    obtain ⟨d1, d2, d3⟩ := c1 k hk
    have D1 := hid d1
    have D2 := hid d2
    have D3 := hid d3
    have hb1' := hb1 (by omega)
    have hneg : decide ((k : Int) < 0) = false := by simp
    generalize l.getD k noRg = r at D1 D2 D3 ⊢
    obtain ⟨rf, rt, rv⟩ := r
    simp only at D1 D2 D3 ⊢
    generalize l.length = n at *
    clear d1 d2 d3 c1 HS hb1
    go_enter Tryz.func82, Tryz.ntmps82
    go_wp2_with (go_at_call 95; refine HI.out.mono ?_; rintro e w1 ⟨rfl, hb1⟩; have HB1 := hid (HB0.out.trans (hb1.mono HB0.out.size)); have HX1 := hid (HX.out.below hb1 HX.out.lt); have g1 := (HB1.out.cell (p := ⟨b1, o1 + k * 3, none⟩) hb1').trans D1.out; have g2 := (HB1.out.cell (p := ⟨b1, o1 + k * 3 + 1, none⟩) hb1').trans D2.out; have g3 := (HB1.out.cell (p := ⟨b1, o1 + k * 3 + 2, none⟩) hb1').trans D3.out; have z0 := HX1.out.ice 0; have z1 := HX1.out.ice 1; have z2 := HX1.out.ice 2; have y0 := HX1.out.cell 0; have y1 := HX1.out.cell 1; have y2 := HX1.out.cell 2; simp only [List.getElem?_cons_zero, List.getElem?_cons_succ] at y0 y1 y2; clear hb1)
    refine bodyPost_ret (results_two rfl rfl (loadC3 (HX1.out.three _ _ _))) rfl ⟨rfl, below_three HB1.out (Nat.le_refl _)⟩
  · rw [ixS_none hn] at HI
    rw [fndS_none (p := p) hn]
    clear hn HS
    obtain ⟨a1, cap1, rfl, q1, -, -⟩ := h
    generalize l.length = n at *
    go_enter Tryz.func82, Tryz.ntmps82
    go_wp2_with (go_at_call 95; refine HI.out.mono ?_; rintro e w1 ⟨rfl, hb1⟩; have HB1 := hid (HB0.out.trans (hb1.mono HB0.out.size)); have HX1 := hid ((HX.out.below hb1 HX.out.lt).alloc (.cells #[.int .i64 0, .int .i64 0, .int .i64 0] 49)); have z0 := HX1.out.ice 0; have z1 := HX1.out.ice 1; have z2 := HX1.out.ice 2; have y0 := HX1.out.cell 0; have y1 := HX1.out.cell 1; have y2 := HX1.out.cell 2; simp only [List.getElem?_cons_zero, List.getElem?_cons_succ] at y0 y1 y2; clear hb1)
    refine bodyPost_ret (results_two rfl rfl (loadC3 (HX1.out.three _ _ _))) rfl ⟨rfl, below_three (HB1.out.alloc HB1.out.size _) (Nat.le_refl _)⟩
end Go.Proofs.YtildhebaikeknaaGreat
