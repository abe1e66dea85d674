/- Several texts in one: Cs16a, Cs16b, Cs16c, Cs16d, Cs16e. -/
import Derived.Test.YtobicndpkojgiaaPk15
import Derived.Test.YtobicndpkojgiaaPk16
import Derived.Test.YtobicndpkojgiaaPk5
import Derived.Test.YtobicndpkojgiaaPk1
import Derived.Test.YtobicndpkojgiaaPk12
/-! Cs16a -/
namespace Go.Proofs.Ytobicndpkojgiaa
open Go.RowKit

theorem loadCd {a b c : Value} {B : Nat} {w : World} (h : Box 38 [a, b, c] B w) : (loadVar 38 ⟨B, 0, none⟩).run Try.prog w = .ok (.agg #[a, b, c]) w := by
  have k0 := h.cell 0
  have k1 := h.cell 1
  have k2 := h.cell 2
  simp only [List.getElem?_cons_zero, List.getElem?_cons_succ] at k0 k1 k2
  simp [go_sem, k0, k1, k2]
theorem csWide (s : Int) (w : World) : Calls Try.prog 18 #[.int .i64 s] w fun e w' => e = .returned (.bool (s == 87)) ∧ w = w' := by
  go_enter Try.func18, Try.ntmps18
  go_wp2_with (fail)
  go_ret
  exact ⟨rfl, rfl⟩
theorem csGetRule (B1 B2 : Nat) (s p a b c : Int) (w : World) (h1 : w.cell? ⟨B1, 0, none⟩ = some (.int .i64 s)) (h2 : w.cell? ⟨B2, 0, none⟩ = some (.int .i64 p)) :
    Calls Try.prog 36 #[.agg #[.int .i64 a, .int .i64 b, .int .i64 c], .pointer (some ⟨B1, 0, none⟩), .pointer (some ⟨B2, 0, none⟩)] w fun e w' => e = .returned (.bool (a == s && b == p)) ∧ Below w.heap.size w w' := by
  have hb0 : Below w.heap.size w (w.alloc (.cells #[.int .i64 a, .int .i64 b, .int .i64 c] 38)) := by (repeat (first | exact Below.refl _ _ | exact below_drewN _ | refine Below.drew ?_ | refine Below.alloc ?_ (by simp) _ | refine Below.setCell ?_ (by simp) _ | refine below_drewN' ?_ _))
  have HB0 := hid hb0
  have x1 := (hb0.cell (p := ⟨B1, 0, none⟩) (World.block_lt_of_cell? w _ h1)).trans h1
  have x2 := (hb0.cell (p := ⟨B2, 0, none⟩) (World.block_lt_of_cell? w _ h2)).trans h2
  clear h1 h2 hb0
  obtain ⟨q, hq⟩ : ∃ q, q = (a == s) := ⟨_, rfl⟩
  rw [← hq]
  replace hq := hq.symm
  cases q with
  | true =>
    go_enter Try.func36, Try.ntmps36
    go_wp2_with (fail)
    go_ret
    exact ⟨rfl, HB0.out⟩
  | false =>
    go_enter Try.func36, Try.ntmps36
    go_wp2_with (fail)
    go_ret
    exact ⟨rfl, HB0.out⟩
theorem csFindRule (B1 B2 : Nat) (s p a b c : Int) (w : World) (h1 : w.cell? ⟨B1, 0, none⟩ = some (.int .i64 s)) (h2 : w.cell? ⟨B2, 0, none⟩ = some (.int .i64 p)) :
    Calls Try.prog 58 #[.agg #[.int .i64 a, .int .i64 b, .int .i64 c], .pointer (some ⟨B1, 0, none⟩), .pointer (some ⟨B2, 0, none⟩)] w fun e w' => e = .returned (.bool (a == s && c == p)) ∧ Below w.heap.size w w' := by
  have hb0 : Below w.heap.size w (w.alloc (.cells #[.int .i64 a, .int .i64 b, .int .i64 c] 38)) := by (repeat (first | exact Below.refl _ _ | exact below_drewN _ | refine Below.drew ?_ | refine Below.alloc ?_ (by simp) _ | refine Below.setCell ?_ (by simp) _ | refine below_drewN' ?_ _))
  have HB0 := hid hb0
  have x1 := (hb0.cell (p := ⟨B1, 0, none⟩) (World.block_lt_of_cell? w _ h1)).trans h1
  have x2 := (hb0.cell (p := ⟨B2, 0, none⟩) (World.block_lt_of_cell? w _ h2)).trans h2
  clear h1 h2 hb0
  obtain ⟨q, hq⟩ : ∃ q, q = (a == s) := ⟨_, rfl⟩
  rw [← hq]
  replace hq := hq.symm
  cases q with
  | true =>
    go_enter Try.func58, Try.ntmps58
    go_wp2_with (fail)
    go_ret
    exact ⟨rfl, HB0.out⟩
  | false =>
    go_enter Try.func58, Try.ntmps58
    go_wp2_with (fail)
    go_ret
    exact ⟨rfl, HB0.out⟩
theorem csMarkRule (B1 : Nat) (p a b c : Int) (w : World) (h1 : w.cell? ⟨B1, 0, none⟩ = some (.int .i64 p)) :
    Calls Try.prog 86 #[.agg #[.int .i64 a, .int .i64 b, .int .i64 c], .pointer (some ⟨B1, 0, none⟩)] w fun e w' => e = .returned (.bool (a == p)) ∧ Below w.heap.size w w' := by
  have hb0 : Below w.heap.size w (w.alloc (.cells #[.int .i64 a, .int .i64 b, .int .i64 c] 48)) := by (repeat (first | exact Below.refl _ _ | exact below_drewN _ | refine Below.drew ?_ | refine Below.alloc ?_ (by simp) _ | refine Below.setCell ?_ (by simp) _ | refine below_drewN' ?_ _))
  have HB0 := hid hb0
  have x1 := (hb0.cell (p := ⟨B1, 0, none⟩) (World.block_lt_of_cell? w _ h1)).trans h1
  clear h1 hb0
  go_enter Try.func86, Try.ntmps86
  go_wp2_with (fail)
  go_ret
  exact ⟨rfl, HB0.out⟩
theorem csAccARule (B1 : Nat) (p a b c : Int) (w : World) (h1 : w.cell? ⟨B1, 0, none⟩ = some (.int .i64 p)) :
    Calls Try.prog 47 #[.agg #[.int .i64 a, .int .i64 b, .int .i64 c], .pointer (some ⟨B1, 0, none⟩)] w fun e w' => e = .returned (.bool (c == p)) ∧ Below w.heap.size w w' := by
  have hb0 : Below w.heap.size w (w.alloc (.cells #[.int .i64 a, .int .i64 b, .int .i64 c] 48)) := by (repeat (first | exact Below.refl _ _ | exact below_drewN _ | refine Below.drew ?_ | refine Below.alloc ?_ (by simp) _ | refine Below.setCell ?_ (by simp) _ | refine below_drewN' ?_ _))
  have HB0 := hid hb0
  have x1 := (hb0.cell (p := ⟨B1, 0, none⟩) (World.block_lt_of_cell? w _ h1)).trans h1
  clear h1 hb0
  go_enter Try.func47, Try.ntmps47
  go_wp2_with (fail)
  go_ret
  exact ⟨rfl, HB0.out⟩
theorem csOnLRule (B1 : Nat) (v : Value) (l : List Int) (a b c : Int) (w : World) (hl : l.length = 2) (h1 : w.cell? ⟨B1, 0, none⟩ = some v) (hs : Sl .i64 w v l) :
    Calls Try.prog 65 #[.agg #[.int .i64 a, .int .i64 b, .int .i64 c], .pointer (some ⟨B1, 0, none⟩)] w fun e w' => e = .returned (.bool (b == l.getD 1 0)) ∧ Below w.heap.size w w' := by
  have hb0 : Below w.heap.size w (w.alloc (.cells #[.int .i64 a, .int .i64 b, .int .i64 c] 48)) := by (repeat (first | exact Below.refl _ _ | exact below_drewN _ | refine Below.drew ?_ | refine Below.alloc ?_ (by simp) _ | refine Below.setCell ?_ (by simp) _ | refine below_drewN' ?_ _))
  have HB0 := hid hb0
  have x1 := (hb0.cell (p := ⟨B1, 0, none⟩) (World.block_lt_of_cell? w _ h1)).trans h1
  have HX := hid (Box.made w 48 [.int .i64 a, .int .i64 b, .int .i64 c])
  have y1 := HX.out.cell 1
  simp only [List.getElem?_cons_zero, List.getElem?_cons_succ] at y1
  obtain ⟨a1, cap1, rfl, q1, -, hc⟩ := hs
  rcases hc with hc | ⟨b1, o1, rfl, hb1, c1⟩
  · omega
  have d1 := (hb0.cell (p := ⟨b1, o1 + 1, none⟩) (hb1 (by omega))).trans (c1 1 (by omega))
  rw [hl] at x1 q1
  generalize l.getD 1 0 = y at d1 ⊢
  clear h1 hb0 c1 hb1 hl
  go_enter Try.func65, Try.ntmps65
  go_wp2
  generalize w.alloc (.cells #[.int .i64 a, .int .i64 b, .int .i64 c] 48) = W at *
  go_quiet (fail)
  go_wp2
  go_ret
  exact ⟨rfl, below_drewN' HB0.out _⟩
theorem csNmdRule (B1 B2 : Nat) (fin : Int) (wd : Bool) (x : Int) (w : World) (h1 : w.cell? ⟨B1, 0, none⟩ = some (.int .i64 fin)) (h2 : w.cell? ⟨B2, 0, none⟩ = some (.bool wd)) :
    Calls Try.prog 90 #[.int .i64 x, .pointer (some ⟨B1, 0, none⟩), .pointer (some ⟨B2, 0, none⟩)] w fun e w' => e = .returned (.bool (finalS x == fin && (x == 87) == wd)) ∧ Below w.heap.size w w' := by
  obtain ⟨z, hz⟩ : ∃ z, z = finalS x := ⟨_, rfl⟩
  obtain ⟨z2, hz2⟩ : ∃ z2, z2 = (x == 87) := ⟨_, rfl⟩
  have HF := hid (fun w => apiFinal x w)
  have HW := hid (fun w => csWide x w)
  rw [← hz] at HF ⊢
  rw [← hz2] at HW ⊢
  clear hz hz2
  obtain ⟨q, hq⟩ : ∃ q, q = (z == fin) := ⟨_, rfl⟩
  rw [← hq]
  replace hq := hq.symm
  have HQ := hid hq
  cases q with
  | true =>
    go_enter Try.func90, Try.ntmps90
    go_wp2_with (fail)
    go_quiet (first | (go_at_call 34; exact quiet_same0 (HF.out _)) | (go_at_call 34; exact quiet_same (HF.out _)) | (go_at_call 18; exact quiet_same0 (HW.out _)) | (go_at_call 18; exact quiet_same (HW.out _)))
    go_wp2
    go_ret
    exact ⟨by cases z2 <;> cases wd <;> rfl, by (repeat (first | exact Below.refl _ _ | exact below_drewN _ | refine Below.drew ?_ | refine Below.alloc ?_ (by simp) _ | refine Below.setCell ?_ (by simp) _ | refine below_drewN' ?_ _))⟩
  | false =>
    go_enter Try.func90, Try.ntmps90
    go_wp2_with (fail)
    go_quiet (first | (go_at_call 34; exact quiet_same0 (HF.out _)) | (go_at_call 34; exact quiet_same (HF.out _)) | (go_at_call 18; exact quiet_same0 (HW.out _)) | (go_at_call 18; exact quiet_same (HW.out _)))
    go_wp2
    go_ret
    exact ⟨rfl, by (repeat (first | exact Below.refl _ _ | exact below_drewN _ | refine Below.drew ?_ | refine Below.alloc ?_ (by simp) _ | refine Below.setCell ?_ (by simp) _ | refine below_drewN' ?_ _))⟩
end Go.Proofs.Ytobicndpkojgiaa

/-! Cs16b -/
namespace Go.Proofs.Ytobicndpkojgiaa
open Go.RowKit

def RuleGet (p : Rg → Bool) (B1 B2 : Nat) (w : World) : Prop := ∀ wr, Below w.heap.size w wr → ∀ a b c : Int, Calls Try.prog 36 #[.agg #[.int .i64 a, .int .i64 b, .int .i64 c], .pointer (some ⟨B1, 0, none⟩), .pointer (some ⟨B2, 0, none⟩)] wr fun e w' => e = .returned (.bool (p ⟨a, b, c⟩)) ∧ Below wr.heap.size wr w'
set_option maxHeartbeats 2000000 in
theorem csGetIdx (p : Rg → Bool) (B1 B2 : Nat) (v : Value) (l : List Rg) (w : World) (h : Sg w v l) (hd : RuleGet p B1 B2 w) :
    Calls Try.prog 52 #[v, .func (.func 36) #[] #[.pointer (some ⟨B1, 0, none⟩), .pointer (some ⟨B2, 0, none⟩)]] w fun e w' => e = .returned (.int .i64 (ixS p l)) ∧ Below w.heap.size w w' := by
  have ml := h.len
  obtain ⟨a1, cap1, rfl, q1, -, h1⟩ := h
  obtain ⟨n, hn⟩ : ∃ n, n = l.length := ⟨_, rfl⟩
  obtain ⟨R, hR⟩ : ∃ R, R = ixS p l := ⟨_, rfl⟩
  have hH : ∀ k, k < n → (∀ i, i < k → p (l.getD i noRg) = false) → p (l.getD k noRg) = true → R = (k : Int) := fun k hk ha hh => hR.trans (ixS_hit (by omega) ha hh)
  have hN : (∀ i, i < n → p (l.getD i noRg) = false) → R = -1 := fun ha => hR.trans (ixS_none (by rw [← hn]; exact ha))
  rw [← hR]
  have HH := hid hH
  have HN := hid hN
  have H1 := hid h1
  have HD := hid hd
  rw [← hn] at ml q1 H1 ⊢
  clear hH hN h1 hn hR hd
  go_enter Try.func52, Try.ntmps52
  go_wp2_with (fail)
  go_loopw [8] (fun iv wr => ∃ k : Nat, k ≤ n ∧ iv = .int .i64 k ∧ Hid (Below w.heap.size w wr) ∧ Hid (∀ i, i < k → p (l.getD i noRg) = false)) (fun iv _ => n - (intOf iv).toNat)
  case atStart => exact ⟨0, by omega, rfl, Below.refl _ _, fun i hi => absurd hi (by omega)⟩
  case round =>
    obtain ⟨k, hk, rfl, hbel, hall⟩ := hrel
    by_cases hlt : k < n
    · rcases H1.out with hc | ⟨b1, o1, rfl, hb1, c1⟩
      · omega
      have hb1' := hb1 (by omega)
      obtain ⟨d1, d2, d3⟩ := c1 k hlt
      have d1 := (hbel.out.cell (p := ⟨b1, o1 + k * 3, none⟩) hb1').trans d1
      have d2 := (hbel.out.cell (p := ⟨b1, o1 + k * 3 + 1, none⟩) hb1').trans d2
      have d3 := (hbel.out.cell (p := ⟨b1, o1 + k * 3 + 2, none⟩) hb1').trans d3
      have hh := hid (HH.out k hlt hall.out)
      have HNX := hid (show p (l.getD k noRg) = false → ∀ i, i < k + 1 → p (l.getD i noRg) = false from fun he i hi => by
        rcases Nat.lt_or_ge i k with h | h
        · exact hall.out i h
        · obtain rfl : i = k := by omega
          exact he)
      clear c1
      generalize l.getD k noRg = r at d1 d2 d3 hh HNX
      obtain ⟨rf, rt, rv⟩ := r
      simp only at d1 d2 d3 hh HNX
      obtain ⟨b, hb⟩ : ∃ b, b = p ⟨rf, rt, rv⟩ := ⟨_, rfl⟩
      rw [← hb] at hh HNX
      have HC := hid (HD.out wr hbel.out rf rt rv)
      rw [← hb] at HC
      clear hb
      cases b with
      | true =>
        have hr := hid (hh.out rfl)
        go_wp2_with (go_at_call 36; refine HC.out.mono ?_; rintro e wu ⟨rfl, hbu⟩; have HBU := hid (hbel.out.trans (hbu.mono hbel.out.size)); clear hbu)
        go_ret
        exact ⟨by rw [hr.out]; rfl, HBU.out⟩
      | false =>
        have hr := hid (HNX.out rfl)
        go_wp2_with (go_at_call 36; refine HC.out.mono ?_; rintro e wu ⟨rfl, hbu⟩; have HBU := hid (hbel.out.trans (hbu.mono hbel.out.size)); clear hbu)
        go_roundw
        case rel => exact ⟨k + 1, by omega, by go_num, HBU.out, hr.out⟩
        case measure => simp [intOf]; omega
    · obtain rfl : k = n := by omega
      have hr := hid (HN.out hall.out)
      go_wp2_with (fail)
      go_ret
      exact ⟨by rw [hr.out]; rfl, hbel.out⟩
set_option maxHeartbeats 2000000 in
theorem csGetFirst (p : Rg → Bool) (B1 B2 : Nat) (v : Value) (l : List Rg) (w : World) (h : Sg w v l) (hd : RuleGet p B1 B2 w) :
    Calls Try.prog 35 #[v, .func (.func 36) #[] #[.pointer (some ⟨B1, 0, none⟩), .pointer (some ⟨B2, 0, none⟩)]] w fun e w' => e = .returned (.tuple #[.agg #[.int .i64 (fndS p l).1.f, .int .i64 (fndS p l).1.t, .int .i64 (fndS p l).1.v], .bool (fndS p l).2]) ∧ Below w.heap.size w w' := by
  have hb0 : Below w.heap.size w (w.alloc (.cells #[.int .i64 0, .int .i64 0, .int .i64 0] 38)) := by (repeat (first | exact Below.refl _ _ | exact below_drewN _ | refine Below.drew ?_ | refine Below.alloc ?_ (by simp) _ | refine Below.setCell ?_ (by simp) _ | refine below_drewN' ?_ _))
  have HB0 := hid hb0
  have HX := hid (Box.made w 38 [.int .i64 0, .int .i64 0, .int .i64 0])
  have HI := hid (csGetIdx p B1 B2 v l _ (h.below hb0) (fun wr hwr a b c => hd wr (hb0.trans (hwr.mono hb0.size)) a b c))
  have HS := hid (h.below hb0)
  have ml := h.len
  clear hd hb0
  rcases first_or (p := p) l with ⟨k, hk, ha, hp⟩ | hn
  · rw [ixS_hit hk ha hp] at HI
    rw [fndS_hit (p := p) hk ha hp]
    clear ha hp
    obtain ⟨a1, cap1, rfl, q1, -, h1⟩ := h
    rcases h1 with hc | ⟨b1, o1, rfl, hb1, c1⟩
    · omega
    obtain ⟨d1, d2, d3⟩ := c1 k hk
    have D1 := hid d1
    have D2 := hid d2
    have D3 := hid d3
    have hb1' := hb1 (by omega)
    have hneg : decide ((k : Int) < 0) = false := by simp
    generalize l.getD k noRg = r at D1 D2 D3 ⊢
    obtain ⟨rf, rt, rv⟩ := r
    simp only at D1 D2 D3 ⊢
    generalize l.length = n at *
    clear d1 d2 d3 c1 HS hb1
    go_enter Try.func35, Try.ntmps35
    go_wp2_with (go_at_call 52; refine HI.out.mono ?_; rintro e w1 ⟨rfl, hb1⟩; have HB1 := hid (HB0.out.trans (hb1.mono HB0.out.size)); have HX1 := hid (HX.out.below hb1 HX.out.lt); have g1 := (HB1.out.cell (p := ⟨b1, o1 + k * 3, none⟩) hb1').trans D1.out; have g2 := (HB1.out.cell (p := ⟨b1, o1 + k * 3 + 1, none⟩) hb1').trans D2.out; have g3 := (HB1.out.cell (p := ⟨b1, o1 + k * 3 + 2, none⟩) hb1').trans D3.out; have z0 := HX1.out.ice 0; have z1 := HX1.out.ice 1; have z2 := HX1.out.ice 2; have y0 := HX1.out.cell 0; have y1 := HX1.out.cell 1; have y2 := HX1.out.cell 2; simp only [List.getElem?_cons_zero, List.getElem?_cons_succ] at y0 y1 y2; clear hb1)
    refine bodyPost_ret (results_two rfl rfl (loadCd (HX1.out.three _ _ _))) rfl ⟨rfl, below_three HB1.out (Nat.le_refl _)⟩
  · rw [ixS_none hn] at HI
    rw [fndS_none (p := p) hn]
    clear hn HS
    obtain ⟨a1, cap1, rfl, q1, -, -⟩ := h
    generalize l.length = n at *
    go_enter Try.func35, Try.ntmps35
    go_wp2_with (go_at_call 52; refine HI.out.mono ?_; rintro e w1 ⟨rfl, hb1⟩; have HB1 := hid (HB0.out.trans (hb1.mono HB0.out.size)); have HX1 := hid ((HX.out.below hb1 HX.out.lt).alloc (.cells #[.int .i64 0, .int .i64 0, .int .i64 0] 38)); have z0 := HX1.out.ice 0; have z1 := HX1.out.ice 1; have z2 := HX1.out.ice 2; have y0 := HX1.out.cell 0; have y1 := HX1.out.cell 1; have y2 := HX1.out.cell 2; simp only [List.getElem?_cons_zero, List.getElem?_cons_succ] at y0 y1 y2; clear hb1)
    refine bodyPost_ret (results_two rfl rfl (loadCd (HX1.out.three _ _ _))) rfl ⟨rfl, below_three (HB1.out.alloc HB1.out.size _) (Nat.le_refl _)⟩
def RuleFind (p : Rg → Bool) (B1 B2 : Nat) (w : World) : Prop := ∀ wr, Below w.heap.size w wr → ∀ a b c : Int, Calls Try.prog 58 #[.agg #[.int .i64 a, .int .i64 b, .int .i64 c], .pointer (some ⟨B1, 0, none⟩), .pointer (some ⟨B2, 0, none⟩)] wr fun e w' => e = .returned (.bool (p ⟨a, b, c⟩)) ∧ Below wr.heap.size wr w'
set_option maxHeartbeats 2000000 in
theorem csFindIdx (p : Rg → Bool) (B1 B2 : Nat) (v : Value) (l : List Rg) (w : World) (h : Sg w v l) (hd : RuleFind p B1 B2 w) :
    Calls Try.prog 52 #[v, .func (.func 58) #[] #[.pointer (some ⟨B1, 0, none⟩), .pointer (some ⟨B2, 0, none⟩)]] w fun e w' => e = .returned (.int .i64 (ixS p l)) ∧ Below w.heap.size w w' := by
  have ml := h.len
  obtain ⟨a1, cap1, rfl, q1, -, h1⟩ := h
  obtain ⟨n, hn⟩ : ∃ n, n = l.length := ⟨_, rfl⟩
  obtain ⟨R, hR⟩ : ∃ R, R = ixS p l := ⟨_, rfl⟩
  have hH : ∀ k, k < n → (∀ i, i < k → p (l.getD i noRg) = false) → p (l.getD k noRg) = true → R = (k : Int) := fun k hk ha hh => hR.trans (ixS_hit (by omega) ha hh)
  have hN : (∀ i, i < n → p (l.getD i noRg) = false) → R = -1 := fun ha => hR.trans (ixS_none (by rw [← hn]; exact ha))
  rw [← hR]
  have HH := hid hH
  have HN := hid hN
  have H1 := hid h1
  have HD := hid hd
  rw [← hn] at ml q1 H1 ⊢
  clear hH hN h1 hn hR hd
  go_enter Try.func52, Try.ntmps52
  go_wp2_with (fail)
  go_loopw [8] (fun iv wr => ∃ k : Nat, k ≤ n ∧ iv = .int .i64 k ∧ Hid (Below w.heap.size w wr) ∧ Hid (∀ i, i < k → p (l.getD i noRg) = false)) (fun iv _ => n - (intOf iv).toNat)
  case atStart => exact ⟨0, by omega, rfl, Below.refl _ _, fun i hi => absurd hi (by omega)⟩
  case round =>
    obtain ⟨k, hk, rfl, hbel, hall⟩ := hrel
    by_cases hlt : k < n
    · rcases H1.out with hc | ⟨b1, o1, rfl, hb1, c1⟩
      · omega
      have hb1' := hb1 (by omega)
      obtain ⟨d1, d2, d3⟩ := c1 k hlt
      have d1 := (hbel.out.cell (p := ⟨b1, o1 + k * 3, none⟩) hb1').trans d1
      have d2 := (hbel.out.cell (p := ⟨b1, o1 + k * 3 + 1, none⟩) hb1').trans d2
      have d3 := (hbel.out.cell (p := ⟨b1, o1 + k * 3 + 2, none⟩) hb1').trans d3
      have hh := hid (HH.out k hlt hall.out)
      have HNX := hid (show p (l.getD k noRg) = false → ∀ i, i < k + 1 → p (l.getD i noRg) = false from fun he i hi => by
        rcases Nat.lt_or_ge i k with h | h
        · exact hall.out i h
        · obtain rfl : i = k := by omega
          exact he)
      clear c1
      generalize l.getD k noRg = r at d1 d2 d3 hh HNX
      obtain ⟨rf, rt, rv⟩ := r
      simp only at d1 d2 d3 hh HNX
      obtain ⟨b, hb⟩ : ∃ b, b = p ⟨rf, rt, rv⟩ := ⟨_, rfl⟩
      rw [← hb] at hh HNX
      have HC := hid (HD.out wr hbel.out rf rt rv)
      rw [← hb] at HC
      clear hb
      cases b with
      | true =>
        have hr := hid (hh.out rfl)
        go_wp2_with (go_at_call 58; refine HC.out.mono ?_; rintro e wu ⟨rfl, hbu⟩; have HBU := hid (hbel.out.trans (hbu.mono hbel.out.size)); clear hbu)
        go_ret
        exact ⟨by rw [hr.out]; rfl, HBU.out⟩
      | false =>
        have hr := hid (HNX.out rfl)
        go_wp2_with (go_at_call 58; refine HC.out.mono ?_; rintro e wu ⟨rfl, hbu⟩; have HBU := hid (hbel.out.trans (hbu.mono hbel.out.size)); clear hbu)
        go_roundw
        case rel => exact ⟨k + 1, by omega, by go_num, HBU.out, hr.out⟩
        case measure => simp [intOf]; omega
    · obtain rfl : k = n := by omega
      have hr := hid (HN.out hall.out)
      go_wp2_with (fail)
      go_ret
      exact ⟨by rw [hr.out]; rfl, hbel.out⟩
set_option maxHeartbeats 2000000 in
theorem csFindFirst (p : Rg → Bool) (B1 B2 : Nat) (v : Value) (l : List Rg) (w : World) (h : Sg w v l) (hd : RuleFind p B1 B2 w) :
    Calls Try.prog 35 #[v, .func (.func 58) #[] #[.pointer (some ⟨B1, 0, none⟩), .pointer (some ⟨B2, 0, none⟩)]] w fun e w' => e = .returned (.tuple #[.agg #[.int .i64 (fndS p l).1.f, .int .i64 (fndS p l).1.t, .int .i64 (fndS p l).1.v], .bool (fndS p l).2]) ∧ Below w.heap.size w w' := by
  have hb0 : Below w.heap.size w (w.alloc (.cells #[.int .i64 0, .int .i64 0, .int .i64 0] 38)) := by (repeat (first | exact Below.refl _ _ | exact below_drewN _ | refine Below.drew ?_ | refine Below.alloc ?_ (by simp) _ | refine Below.setCell ?_ (by simp) _ | refine below_drewN' ?_ _))
  have HB0 := hid hb0
  have HX := hid (Box.made w 38 [.int .i64 0, .int .i64 0, .int .i64 0])
  have HI := hid (csFindIdx p B1 B2 v l _ (h.below hb0) (fun wr hwr a b c => hd wr (hb0.trans (hwr.mono hb0.size)) a b c))
  have HS := hid (h.below hb0)
  have ml := h.len
  clear hd hb0
  rcases first_or (p := p) l with ⟨k, hk, ha, hp⟩ | hn
  · rw [ixS_hit hk ha hp] at HI
    rw [fndS_hit (p := p) hk ha hp]
    clear ha hp
    obtain ⟨a1, cap1, rfl, q1, -, h1⟩ := h
    rcases h1 with hc | ⟨b1, o1, rfl, hb1, c1⟩
    · omega
    obtain ⟨d1, d2, d3⟩ := c1 k hk
    have D1 := hid d1
    have D2 := hid d2
    have D3 := hid d3
    have hb1' := hb1 (by omega)
    have hneg : decide ((k : Int) < 0) = false := by simp
    generalize l.getD k noRg = r at D1 D2 D3 ⊢
    obtain ⟨rf, rt, rv⟩ := r
    simp only at D1 D2 D3 ⊢
    generalize l.length = n at *
    clear d1 d2 d3 c1 HS hb1
    go_enter Try.func35, Try.ntmps35
    go_wp2_with (go_at_call 52; refine HI.out.mono ?_; rintro e w1 ⟨rfl, hb1⟩; have HB1 := hid (HB0.out.trans (hb1.mono HB0.out.size)); have HX1 := hid (HX.out.below hb1 HX.out.lt); have g1 := (HB1.out.cell (p := ⟨b1, o1 + k * 3, none⟩) hb1').trans D1.out; have g2 := (HB1.out.cell (p := ⟨b1, o1 + k * 3 + 1, none⟩) hb1').trans D2.out; have g3 := (HB1.out.cell (p := ⟨b1, o1 + k * 3 + 2, none⟩) hb1').trans D3.out; have z0 := HX1.out.ice 0; have z1 := HX1.out.ice 1; have z2 := HX1.out.ice 2; have y0 := HX1.out.cell 0; have y1 := HX1.out.cell 1; have y2 := HX1.out.cell 2; simp only [List.getElem?_cons_zero, List.getElem?_cons_succ] at y0 y1 y2; clear hb1)
    refine bodyPost_ret (results_two rfl rfl (loadCd (HX1.out.three _ _ _))) rfl ⟨rfl, below_three HB1.out (Nat.le_refl _)⟩
  · rw [ixS_none hn] at HI
    rw [fndS_none (p := p) hn]
    clear hn HS
    obtain ⟨a1, cap1, rfl, q1, -, -⟩ := h
    generalize l.length = n at *
    go_enter Try.func35, Try.ntmps35
    go_wp2_with (go_at_call 52; refine HI.out.mono ?_; rintro e w1 ⟨rfl, hb1⟩; have HB1 := hid (HB0.out.trans (hb1.mono HB0.out.size)); have HX1 := hid ((HX.out.below hb1 HX.out.lt).alloc (.cells #[.int .i64 0, .int .i64 0, .int .i64 0] 38)); have z0 := HX1.out.ice 0; have z1 := HX1.out.ice 1; have z2 := HX1.out.ice 2; have y0 := HX1.out.cell 0; have y1 := HX1.out.cell 1; have y2 := HX1.out.cell 2; simp only [List.getElem?_cons_zero, List.getElem?_cons_succ] at y0 y1 y2; clear hb1)
    refine bodyPost_ret (results_two rfl rfl (loadCd (HX1.out.three _ _ _))) rfl ⟨rfl, below_three (HB1.out.alloc HB1.out.size _) (Nat.le_refl _)⟩
end Go.Proofs.Ytobicndpkojgiaa

/-! Cs16c -/
namespace Go.Proofs.Ytobicndpkojgiaa
open Go.RowKit

def RuleMark (p : Rg → Bool) (B1 : Nat) (w : World) : Prop := ∀ wr, Below w.heap.size w wr → ∀ a b c : Int, Calls Try.prog 86 #[.agg #[.int .i64 a, .int .i64 b, .int .i64 c], .pointer (some ⟨B1, 0, none⟩)] wr fun e w' => e = .returned (.bool (p ⟨a, b, c⟩)) ∧ Below wr.heap.size wr w'
set_option maxHeartbeats 2000000 in
theorem csMarkIdx (p : Rg → Bool) (B1 : Nat) (v : Value) (l : List Rg) (w : World) (h : Sg w v l) (hd : RuleMark p B1 w) :
    Calls Try.prog 62 #[v, .func (.func 86) #[] #[.pointer (some ⟨B1, 0, none⟩)]] w fun e w' => e = .returned (.int .i64 (ixS p l)) ∧ Below w.heap.size w w' := by
  have ml := h.len
  obtain ⟨a1, cap1, rfl, q1, -, h1⟩ := h
  obtain ⟨n, hn⟩ : ∃ n, n = l.length := ⟨_, rfl⟩
  obtain ⟨R, hR⟩ : ∃ R, R = ixS p l := ⟨_, rfl⟩
  have hH : ∀ k, k < n → (∀ i, i < k → p (l.getD i noRg) = false) → p (l.getD k noRg) = true → R = (k : Int) := fun k hk ha hh => hR.trans (ixS_hit (by omega) ha hh)
  have hN : (∀ i, i < n → p (l.getD i noRg) = false) → R = -1 := fun ha => hR.trans (ixS_none (by rw [← hn]; exact ha))
  rw [← hR]
  have HH := hid hH
  have HN := hid hN
  have H1 := hid h1
  have HD := hid hd
  rw [← hn] at ml q1 H1 ⊢
  clear hH hN h1 hn hR hd
  go_enter Try.func62, Try.ntmps62
  go_wp2_with (fail)
  go_loopw [8] (fun iv wr => ∃ k : Nat, k ≤ n ∧ iv = .int .i64 k ∧ Hid (Below w.heap.size w wr) ∧ Hid (∀ i, i < k → p (l.getD i noRg) = false)) (fun iv _ => n - (intOf iv).toNat)
  case atStart => exact ⟨0, by omega, rfl, Below.refl _ _, fun i hi => absurd hi (by omega)⟩
  case round =>
    obtain ⟨k, hk, rfl, hbel, hall⟩ := hrel
    by_cases hlt : k < n
    · rcases H1.out with hc | ⟨b1, o1, rfl, hb1, c1⟩
      · omega
      have hb1' := hb1 (by omega)
      obtain ⟨d1, d2, d3⟩ := c1 k hlt
      have d1 := (hbel.out.cell (p := ⟨b1, o1 + k * 3, none⟩) hb1').trans d1
      have d2 := (hbel.out.cell (p := ⟨b1, o1 + k * 3 + 1, none⟩) hb1').trans d2
      have d3 := (hbel.out.cell (p := ⟨b1, o1 + k * 3 + 2, none⟩) hb1').trans d3
      have hh := hid (HH.out k hlt hall.out)
      have HNX := hid (show p (l.getD k noRg) = false → ∀ i, i < k + 1 → p (l.getD i noRg) = false from fun he i hi => by
        rcases Nat.lt_or_ge i k with h | h
        · exact hall.out i h
        · obtain rfl : i = k := by omega
          exact he)
      clear c1
      generalize l.getD k noRg = r at d1 d2 d3 hh HNX
      obtain ⟨rf, rt, rv⟩ := r
      simp only at d1 d2 d3 hh HNX
      obtain ⟨b, hb⟩ : ∃ b, b = p ⟨rf, rt, rv⟩ := ⟨_, rfl⟩
      rw [← hb] at hh HNX
      have HC := hid (HD.out wr hbel.out rf rt rv)
      rw [← hb] at HC
      clear hb
      cases b with
      | true =>
        have hr := hid (hh.out rfl)
        go_wp2_with (go_at_call 86; refine HC.out.mono ?_; rintro e wu ⟨rfl, hbu⟩; have HBU := hid (hbel.out.trans (hbu.mono hbel.out.size)); clear hbu)
        go_ret
        exact ⟨by rw [hr.out]; rfl, HBU.out⟩
      | false =>
        have hr := hid (HNX.out rfl)
        go_wp2_with (go_at_call 86; refine HC.out.mono ?_; rintro e wu ⟨rfl, hbu⟩; have HBU := hid (hbel.out.trans (hbu.mono hbel.out.size)); clear hbu)
        go_roundw
        case rel => exact ⟨k + 1, by omega, by go_num, HBU.out, hr.out⟩
        case measure => simp [intOf]; omega
    · obtain rfl : k = n := by omega
      have hr := hid (HN.out hall.out)
      go_wp2_with (fail)
      go_ret
      exact ⟨by rw [hr.out]; rfl, hbel.out⟩
set_option maxHeartbeats 2000000 in
theorem csMarkFirst (p : Rg → Bool) (B1 : Nat) (v : Value) (l : List Rg) (w : World) (h : Sg w v l) (hd : RuleMark p B1 w) :
    Calls Try.prog 46 #[v, .func (.func 86) #[] #[.pointer (some ⟨B1, 0, none⟩)]] w fun e w' => e = .returned (.tuple #[.agg #[.int .i64 (fndS p l).1.f, .int .i64 (fndS p l).1.t, .int .i64 (fndS p l).1.v], .bool (fndS p l).2]) ∧ Below w.heap.size w w' := by
  have hb0 : Below w.heap.size w (w.alloc (.cells #[.int .i64 0, .int .i64 0, .int .i64 0] 48)) := by (repeat (first | exact Below.refl _ _ | exact below_drewN _ | refine Below.drew ?_ | refine Below.alloc ?_ (by simp) _ | refine Below.setCell ?_ (by simp) _ | refine below_drewN' ?_ _))
  have HB0 := hid hb0
  have HX := hid (Box.made w 48 [.int .i64 0, .int .i64 0, .int .i64 0])
  have HI := hid (csMarkIdx p B1 v l _ (h.below hb0) (fun wr hwr a b c => hd wr (hb0.trans (hwr.mono hb0.size)) a b c))
  have HS := hid (h.below hb0)
  have ml := h.len
  clear hd hb0
  rcases first_or (p := p) l with ⟨k, hk, ha, hp⟩ | hn
  · rw [ixS_hit hk ha hp] at HI
    rw [fndS_hit (p := p) hk ha hp]
    clear ha hp
    obtain ⟨a1, cap1, rfl, q1, -, h1⟩ := h
    rcases h1 with hc | ⟨b1, o1, rfl, hb1, c1⟩
    · omega
    obtain ⟨d1, d2, d3⟩ := c1 k hk
    have D1 := hid d1
    have D2 := hid d2
    have D3 := hid d3
    have hb1' := hb1 (by omega)
    have hneg : decide ((k : Int) < 0) = false := by simp
    generalize l.getD k noRg = r at D1 D2 D3 ⊢
    obtain ⟨rf, rt, rv⟩ := r
    simp only at D1 D2 D3 ⊢
    generalize l.length = n at *
    clear d1 d2 d3 c1 HS hb1
    go_enter Try.func46, Try.ntmps46
    go_wp2_with (go_at_call 62; refine HI.out.mono ?_; rintro e w1 ⟨rfl, hb1⟩; have HB1 := hid (HB0.out.trans (hb1.mono HB0.out.size)); have HX1 := hid (HX.out.below hb1 HX.out.lt); have g1 := (HB1.out.cell (p := ⟨b1, o1 + k * 3, none⟩) hb1').trans D1.out; have g2 := (HB1.out.cell (p := ⟨b1, o1 + k * 3 + 1, none⟩) hb1').trans D2.out; have g3 := (HB1.out.cell (p := ⟨b1, o1 + k * 3 + 2, none⟩) hb1').trans D3.out; have z0 := HX1.out.ice 0; have z1 := HX1.out.ice 1; have z2 := HX1.out.ice 2; have y0 := HX1.out.cell 0; have y1 := HX1.out.cell 1; have y2 := HX1.out.cell 2; simp only [List.getElem?_cons_zero, List.getElem?_cons_succ] at y0 y1 y2; clear hb1)
    refine bodyPost_ret (results_two rfl rfl (loadC3 (HX1.out.three _ _ _))) rfl ⟨rfl, below_three HB1.out (Nat.le_refl _)⟩
  · rw [ixS_none hn] at HI
    rw [fndS_none (p := p) hn]
    clear hn HS
    obtain ⟨a1, cap1, rfl, q1, -, -⟩ := h
    generalize l.length = n at *
    go_enter Try.func46, Try.ntmps46
    go_wp2_with (go_at_call 62; refine HI.out.mono ?_; rintro e w1 ⟨rfl, hb1⟩; have HB1 := hid (HB0.out.trans (hb1.mono HB0.out.size)); have HX1 := hid ((HX.out.below hb1 HX.out.lt).alloc (.cells #[.int .i64 0, .int .i64 0, .int .i64 0] 48)); have z0 := HX1.out.ice 0; have z1 := HX1.out.ice 1; have z2 := HX1.out.ice 2; have y0 := HX1.out.cell 0; have y1 := HX1.out.cell 1; have y2 := HX1.out.cell 2; simp only [List.getElem?_cons_zero, List.getElem?_cons_succ] at y0 y1 y2; clear hb1)
    refine bodyPost_ret (results_two rfl rfl (loadC3 (HX1.out.three _ _ _))) rfl ⟨rfl, below_three (HB1.out.alloc HB1.out.size _) (Nat.le_refl _)⟩
def RuleAccA (p : Rg → Bool) (B1 : Nat) (w : World) : Prop := ∀ wr, Below w.heap.size w wr → ∀ a b c : Int, Calls Try.prog 47 #[.agg #[.int .i64 a, .int .i64 b, .int .i64 c], .pointer (some ⟨B1, 0, none⟩)] wr fun e w' => e = .returned (.bool (p ⟨a, b, c⟩)) ∧ Below wr.heap.size wr w'
set_option maxHeartbeats 2000000 in
theorem csAccAIdx (p : Rg → Bool) (B1 : Nat) (v : Value) (l : List Rg) (w : World) (h : Sg w v l) (hd : RuleAccA p B1 w) :
    Calls Try.prog 62 #[v, .func (.func 47) #[] #[.pointer (some ⟨B1, 0, none⟩)]] w fun e w' => e = .returned (.int .i64 (ixS p l)) ∧ Below w.heap.size w w' := by
  have ml := h.len
  obtain ⟨a1, cap1, rfl, q1, -, h1⟩ := h
  obtain ⟨n, hn⟩ : ∃ n, n = l.length := ⟨_, rfl⟩
  obtain ⟨R, hR⟩ : ∃ R, R = ixS p l := ⟨_, rfl⟩
  have hH : ∀ k, k < n → (∀ i, i < k → p (l.getD i noRg) = false) → p (l.getD k noRg) = true → R = (k : Int) := fun k hk ha hh => hR.trans (ixS_hit (by omega) ha hh)
  have hN : (∀ i, i < n → p (l.getD i noRg) = false) → R = -1 := fun ha => hR.trans (ixS_none (by rw [← hn]; exact ha))
  rw [← hR]
  have HH := hid hH
  have HN := hid hN
  have H1 := hid h1
  have HD := hid hd
  rw [← hn] at ml q1 H1 ⊢
  clear hH hN h1 hn hR hd
  go_enter Try.func62, Try.ntmps62
  go_wp2_with (fail)
  go_loopw [8] (fun iv wr => ∃ k : Nat, k ≤ n ∧ iv = .int .i64 k ∧ Hid (Below w.heap.size w wr) ∧ Hid (∀ i, i < k → p (l.getD i noRg) = false)) (fun iv _ => n - (intOf iv).toNat)
  case atStart => exact ⟨0, by omega, rfl, Below.refl _ _, fun i hi => absurd hi (by omega)⟩
  case round =>
    obtain ⟨k, hk, rfl, hbel, hall⟩ := hrel
    by_cases hlt : k < n
    · rcases H1.out with hc | ⟨b1, o1, rfl, hb1, c1⟩
      · omega
      have hb1' := hb1 (by omega)
      obtain ⟨d1, d2, d3⟩ := c1 k hlt
      have d1 := (hbel.out.cell (p := ⟨b1, o1 + k * 3, none⟩) hb1').trans d1
      have d2 := (hbel.out.cell (p := ⟨b1, o1 + k * 3 + 1, none⟩) hb1').trans d2
      have d3 := (hbel.out.cell (p := ⟨b1, o1 + k * 3 + 2, none⟩) hb1').trans d3
      have hh := hid (HH.out k hlt hall.out)
      have HNX := hid (show p (l.getD k noRg) = false → ∀ i, i < k + 1 → p (l.getD i noRg) = false from fun he i hi => by
        rcases Nat.lt_or_ge i k with h | h
        · exact hall.out i h
        · obtain rfl : i = k := by omega
          exact he)
      clear c1
      generalize l.getD k noRg = r at d1 d2 d3 hh HNX
      obtain ⟨rf, rt, rv⟩ := r
      simp only at d1 d2 d3 hh HNX
      obtain ⟨b, hb⟩ : ∃ b, b = p ⟨rf, rt, rv⟩ := ⟨_, rfl⟩
      rw [← hb] at hh HNX
      have HC := hid (HD.out wr hbel.out rf rt rv)
      rw [← hb] at HC
      clear hb
      cases b with
      | true =>
        have hr := hid (hh.out rfl)
        go_wp2_with (go_at_call 47; refine HC.out.mono ?_; rintro e wu ⟨rfl, hbu⟩; have HBU := hid (hbel.out.trans (hbu.mono hbel.out.size)); clear hbu)
        go_ret
        exact ⟨by rw [hr.out]; rfl, HBU.out⟩
      | false =>
        have hr := hid (HNX.out rfl)
        go_wp2_with (go_at_call 47; refine HC.out.mono ?_; rintro e wu ⟨rfl, hbu⟩; have HBU := hid (hbel.out.trans (hbu.mono hbel.out.size)); clear hbu)
        go_roundw
        case rel => exact ⟨k + 1, by omega, by go_num, HBU.out, hr.out⟩
        case measure => simp [intOf]; omega
    · obtain rfl : k = n := by omega
      have hr := hid (HN.out hall.out)
      go_wp2_with (fail)
      go_ret
      exact ⟨by rw [hr.out]; rfl, hbel.out⟩
set_option maxHeartbeats 2000000 in
theorem csAccAFirst (p : Rg → Bool) (B1 : Nat) (v : Value) (l : List Rg) (w : World) (h : Sg w v l) (hd : RuleAccA p B1 w) :
    Calls Try.prog 46 #[v, .func (.func 47) #[] #[.pointer (some ⟨B1, 0, none⟩)]] w fun e w' => e = .returned (.tuple #[.agg #[.int .i64 (fndS p l).1.f, .int .i64 (fndS p l).1.t, .int .i64 (fndS p l).1.v], .bool (fndS p l).2]) ∧ Below w.heap.size w w' := by
  have hb0 : Below w.heap.size w (w.alloc (.cells #[.int .i64 0, .int .i64 0, .int .i64 0] 48)) := by (repeat (first | exact Below.refl _ _ | exact below_drewN _ | refine Below.drew ?_ | refine Below.alloc ?_ (by simp) _ | refine Below.setCell ?_ (by simp) _ | refine below_drewN' ?_ _))
  have HB0 := hid hb0
  have HX := hid (Box.made w 48 [.int .i64 0, .int .i64 0, .int .i64 0])
  have HI := hid (csAccAIdx p B1 v l _ (h.below hb0) (fun wr hwr a b c => hd wr (hb0.trans (hwr.mono hb0.size)) a b c))
  have HS := hid (h.below hb0)
  have ml := h.len
  clear hd hb0
  rcases first_or (p := p) l with ⟨k, hk, ha, hp⟩ | hn
  · rw [ixS_hit hk ha hp] at HI
    rw [fndS_hit (p := p) hk ha hp]
    clear ha hp
    obtain ⟨a1, cap1, rfl, q1, -, h1⟩ := h
    rcases h1 with hc | ⟨b1, o1, rfl, hb1, c1⟩
    · omega
    obtain ⟨d1, d2, d3⟩ := c1 k hk
    have D1 := hid d1
    have D2 := hid d2
    have D3 := hid d3
    have hb1' := hb1 (by omega)
    have hneg : decide ((k : Int) < 0) = false := by simp
    generalize l.getD k noRg = r at D1 D2 D3 ⊢
    obtain ⟨rf, rt, rv⟩ := r
    simp only at D1 D2 D3 ⊢
    generalize l.length = n at *
    clear d1 d2 d3 c1 HS hb1
    go_enter Try.func46, Try.ntmps46
    go_wp2_with (go_at_call 62; refine HI.out.mono ?_; rintro e w1 ⟨rfl, hb1⟩; have HB1 := hid (HB0.out.trans (hb1.mono HB0.out.size)); have HX1 := hid (HX.out.below hb1 HX.out.lt); have g1 := (HB1.out.cell (p := ⟨b1, o1 + k * 3, none⟩) hb1').trans D1.out; have g2 := (HB1.out.cell (p := ⟨b1, o1 + k * 3 + 1, none⟩) hb1').trans D2.out; have g3 := (HB1.out.cell (p := ⟨b1, o1 + k * 3 + 2, none⟩) hb1').trans D3.out; have z0 := HX1.out.ice 0; have z1 := HX1.out.ice 1; have z2 := HX1.out.ice 2; have y0 := HX1.out.cell 0; have y1 := HX1.out.cell 1; have y2 := HX1.out.cell 2; simp only [List.getElem?_cons_zero, List.getElem?_cons_succ] at y0 y1 y2; clear hb1)
    refine bodyPost_ret (results_two rfl rfl (loadC3 (HX1.out.three _ _ _))) rfl ⟨rfl, below_three HB1.out (Nat.le_refl _)⟩
  · rw [ixS_none hn] at HI
    rw [fndS_none (p := p) hn]
    clear hn HS
    obtain ⟨a1, cap1, rfl, q1, -, -⟩ := h
    generalize l.length = n at *
    go_enter Try.func46, Try.ntmps46
    go_wp2_with (go_at_call 62; refine HI.out.mono ?_; rintro e w1 ⟨rfl, hb1⟩; have HB1 := hid (HB0.out.trans (hb1.mono HB0.out.size)); have HX1 := hid ((HX.out.below hb1 HX.out.lt).alloc (.cells #[.int .i64 0, .int .i64 0, .int .i64 0] 48)); have z0 := HX1.out.ice 0; have z1 := HX1.out.ice 1; have z2 := HX1.out.ice 2; have y0 := HX1.out.cell 0; have y1 := HX1.out.cell 1; have y2 := HX1.out.cell 2; simp only [List.getElem?_cons_zero, List.getElem?_cons_succ] at y0 y1 y2; clear hb1)
    refine bodyPost_ret (results_two rfl rfl (loadC3 (HX1.out.three _ _ _))) rfl ⟨rfl, below_three (HB1.out.alloc HB1.out.size _) (Nat.le_refl _)⟩
def RuleOnL (p : Rg → Bool) (B1 : Nat) (w : World) : Prop := ∀ wr, Below w.heap.size w wr → ∀ a b c : Int, Calls Try.prog 65 #[.agg #[.int .i64 a, .int .i64 b, .int .i64 c], .pointer (some ⟨B1, 0, none⟩)] wr fun e w' => e = .returned (.bool (p ⟨a, b, c⟩)) ∧ Below wr.heap.size wr w'
set_option maxHeartbeats 2000000 in
theorem csOnLIdx (p : Rg → Bool) (B1 : Nat) (v : Value) (l : List Rg) (w : World) (h : Sg w v l) (hd : RuleOnL p B1 w) :
    Calls Try.prog 62 #[v, .func (.func 65) #[] #[.pointer (some ⟨B1, 0, none⟩)]] w fun e w' => e = .returned (.int .i64 (ixS p l)) ∧ Below w.heap.size w w' := by
  have ml := h.len
  obtain ⟨a1, cap1, rfl, q1, -, h1⟩ := h
  obtain ⟨n, hn⟩ : ∃ n, n = l.length := ⟨_, rfl⟩
  obtain ⟨R, hR⟩ : ∃ R, R = ixS p l := ⟨_, rfl⟩
  have hH : ∀ k, k < n → (∀ i, i < k → p (l.getD i noRg) = false) → p (l.getD k noRg) = true → R = (k : Int) := fun k hk ha hh => hR.trans (ixS_hit (by omega) ha hh)
  have hN : (∀ i, i < n → p (l.getD i noRg) = false) → R = -1 := fun ha => hR.trans (ixS_none (by rw [← hn]; exact ha))
  rw [← hR]
  have HH := hid hH
  have HN := hid hN
  have H1 := hid h1
  have HD := hid hd
  rw [← hn] at ml q1 H1 ⊢
  clear hH hN h1 hn hR hd
  go_enter Try.func62, Try.ntmps62
  go_wp2_with (fail)
  go_loopw [8] (fun iv wr => ∃ k : Nat, k ≤ n ∧ iv = .int .i64 k ∧ Hid (Below w.heap.size w wr) ∧ Hid (∀ i, i < k → p (l.getD i noRg) = false)) (fun iv _ => n - (intOf iv).toNat)
  case atStart => exact ⟨0, by omega, rfl, Below.refl _ _, fun i hi => absurd hi (by omega)⟩
  case round =>
    obtain ⟨k, hk, rfl, hbel, hall⟩ := hrel
    by_cases hlt : k < n
    · rcases H1.out with hc | ⟨b1, o1, rfl, hb1, c1⟩
      · omega
      have hb1' := hb1 (by omega)
      obtain ⟨d1, d2, d3⟩ := c1 k hlt
      have d1 := (hbel.out.cell (p := ⟨b1, o1 + k * 3, none⟩) hb1').trans d1
      have d2 := (hbel.out.cell (p := ⟨b1, o1 + k * 3 + 1, none⟩) hb1').trans d2
      have d3 := (hbel.out.cell (p := ⟨b1, o1 + k * 3 + 2, none⟩) hb1').trans d3
      have hh := hid (HH.out k hlt hall.out)
      have HNX := hid (show p (l.getD k noRg) = false → ∀ i, i < k + 1 → p (l.getD i noRg) = false from fun he i hi => by
        rcases Nat.lt_or_ge i k with h | h
        · exact hall.out i h
        · obtain rfl : i = k := by omega
          exact he)
      clear c1
      generalize l.getD k noRg = r at d1 d2 d3 hh HNX
      obtain ⟨rf, rt, rv⟩ := r
      simp only at d1 d2 d3 hh HNX
      obtain ⟨b, hb⟩ : ∃ b, b = p ⟨rf, rt, rv⟩ := ⟨_, rfl⟩
      rw [← hb] at hh HNX
      have HC := hid (HD.out wr hbel.out rf rt rv)
      rw [← hb] at HC
      clear hb
      cases b with
      | true =>
        have hr := hid (hh.out rfl)
        go_wp2_with (go_at_call 65; refine HC.out.mono ?_; rintro e wu ⟨rfl, hbu⟩; have HBU := hid (hbel.out.trans (hbu.mono hbel.out.size)); clear hbu)
        go_ret
        exact ⟨by rw [hr.out]; rfl, HBU.out⟩
      | false =>
        have hr := hid (HNX.out rfl)
        go_wp2_with (go_at_call 65; refine HC.out.mono ?_; rintro e wu ⟨rfl, hbu⟩; have HBU := hid (hbel.out.trans (hbu.mono hbel.out.size)); clear hbu)
        go_roundw
        case rel => exact ⟨k + 1, by omega, by go_num, HBU.out, hr.out⟩
        case measure => simp [intOf]; omega
    · obtain rfl : k = n := by omega
      have hr := hid (HN.out hall.out)
      go_wp2_with (fail)
      go_ret
      exact ⟨by rw [hr.out]; rfl, hbel.out⟩
set_option maxHeartbeats 2000000 in
theorem csOnLFirst (p : Rg → Bool) (B1 : Nat) (v : Value) (l : List Rg) (w : World) (h : Sg w v l) (hd : RuleOnL p B1 w) :
    Calls Try.prog 46 #[v, .func (.func 65) #[] #[.pointer (some ⟨B1, 0, none⟩)]] w fun e w' => e = .returned (.tuple #[.agg #[.int .i64 (fndS p l).1.f, .int .i64 (fndS p l).1.t, .int .i64 (fndS p l).1.v], .bool (fndS p l).2]) ∧ Below w.heap.size w w' := by
  have hb0 : Below w.heap.size w (w.alloc (.cells #[.int .i64 0, .int .i64 0, .int .i64 0] 48)) := by (repeat (first | exact Below.refl _ _ | exact below_drewN _ | refine Below.drew ?_ | refine Below.alloc ?_ (by simp) _ | refine Below.setCell ?_ (by simp) _ | refine below_drewN' ?_ _))
  have HB0 := hid hb0
  have HX := hid (Box.made w 48 [.int .i64 0, .int .i64 0, .int .i64 0])
  have HI := hid (csOnLIdx p B1 v l _ (h.below hb0) (fun wr hwr a b c => hd wr (hb0.trans (hwr.mono hb0.size)) a b c))
  have HS := hid (h.below hb0)
  have ml := h.len
  clear hd hb0
  rcases first_or (p := p) l with ⟨k, hk, ha, hp⟩ | hn
  · rw [ixS_hit hk ha hp] at HI
    rw [fndS_hit (p := p) hk ha hp]
    clear ha hp
    obtain ⟨a1, cap1, rfl, q1, -, h1⟩ := h
    rcases h1 with hc | ⟨b1, o1, rfl, hb1, c1⟩
    · omega
    obtain ⟨d1, d2, d3⟩ := c1 k hk
    have D1 := hid d1
    have D2 := hid d2
    have D3 := hid d3
    have hb1' := hb1 (by omega)
    have hneg : decide ((k : Int) < 0) = false := by simp
    generalize l.getD k noRg = r at D1 D2 D3 ⊢
    obtain ⟨rf, rt, rv⟩ := r
    simp only at D1 D2 D3 ⊢
    generalize l.length = n at *
    clear d1 d2 d3 c1 HS hb1
    go_enter Try.func46, Try.ntmps46
    go_wp2_with (go_at_call 62; refine HI.out.mono ?_; rintro e w1 ⟨rfl, hb1⟩; have HB1 := hid (HB0.out.trans (hb1.mono HB0.out.size)); have HX1 := hid (HX.out.below hb1 HX.out.lt); have g1 := (HB1.out.cell (p := ⟨b1, o1 + k * 3, none⟩) hb1').trans D1.out; have g2 := (HB1.out.cell (p := ⟨b1, o1 + k * 3 + 1, none⟩) hb1').trans D2.out; have g3 := (HB1.out.cell (p := ⟨b1, o1 + k * 3 + 2, none⟩) hb1').trans D3.out; have z0 := HX1.out.ice 0; have z1 := HX1.out.ice 1; have z2 := HX1.out.ice 2; have y0 := HX1.out.cell 0; have y1 := HX1.out.cell 1; have y2 := HX1.out.cell 2; simp only [List.getElem?_cons_zero, List.getElem?_cons_succ] at y0 y1 y2; clear hb1)
    refine bodyPost_ret (results_two rfl rfl (loadC3 (HX1.out.three _ _ _))) rfl ⟨rfl, below_three HB1.out (Nat.le_refl _)⟩
  · rw [ixS_none hn] at HI
    rw [fndS_none (p := p) hn]
    clear hn HS
    obtain ⟨a1, cap1, rfl, q1, -, -⟩ := h
    generalize l.length = n at *
    go_enter Try.func46, Try.ntmps46
    go_wp2_with (go_at_call 62; refine HI.out.mono ?_; rintro e w1 ⟨rfl, hb1⟩; have HB1 := hid (HB0.out.trans (hb1.mono HB0.out.size)); have HX1 := hid ((HX.out.below hb1 HX.out.lt).alloc (.cells #[.int .i64 0, .int .i64 0, .int .i64 0] 48)); have z0 := HX1.out.ice 0; have z1 := HX1.out.ice 1; have z2 := HX1.out.ice 2; have y0 := HX1.out.cell 0; have y1 := HX1.out.cell 1; have y2 := HX1.out.cell 2; simp only [List.getElem?_cons_zero, List.getElem?_cons_succ] at y0 y1 y2; clear hb1)
    refine bodyPost_ret (results_two rfl rfl (loadC3 (HX1.out.three _ _ _))) rfl ⟨rfl, below_three (HB1.out.alloc HB1.out.size _) (Nat.le_refl _)⟩
end Go.Proofs.Ytobicndpkojgiaa

/-! Cs16d -/
namespace Go.Proofs.Ytobicndpkojgiaa
open Go.RowKit

/-- where the first one of numbers stands; -1: there is none -/
def ixI (p : Int → Bool) : List Int → Int
  | [] => -1
  | r :: l => if p r then 0 else if ixI p l < 0 then -1 else ixI p l + 1
theorem ixI_drop {p : Int → Bool} : ∀ {l : List Int} {k : Nat}, k ≤ l.length → (∀ i, i < k → p (l.getD i 0) = false) → ixI p l = if ixI p (l.drop k) < 0 then -1 else ixI p (l.drop k) + k
  | [], 0, _, _ => by simp [ixI]
  | r :: l, 0, _, _ => by
    simp only [List.drop_zero]
    unfold ixI
    by_cases h : p r = true
    · rw [if_pos h]; simp
    · rw [if_neg h]
      by_cases h2 : ixI p l < 0
      · rw [if_pos h2]; simp
      · rw [if_neg h2, if_neg (by omega)]; omega
  | [], k + 1, h, _ => by simp at h
  | r :: l, k + 1, h, ha => by
    have h0 := ha 0 (by omega)
    simp only [List.getD_cons_zero] at h0
    have ih := ixI_drop (p := p) (l := l) (k := k) (by simpa using h) fun i hi => by simpa using ha (i + 1) (by omega)
    rw [ixI, h0, List.drop_succ_cons, ih]
    simp only [Bool.false_eq_true, if_false]
    by_cases h2 : ixI p (l.drop k) < 0
    · rw [if_pos h2]; simp; omega
    · rw [if_neg h2, if_neg (by omega)]; omega
theorem ixI_hit {p : Int → Bool} {l : List Int} {k : Nat} (h : k < l.length) (ha : ∀ i, i < k → p (l.getD i 0) = false) (hk : p (l.getD k 0) = true) : ixI p l = k := by
  rw [ixI_drop (by omega) ha, List.drop_eq_getElem_cons h, ixI]
  have e : l.getD k 0 = l[k] := by rw [List.getD_eq_getElem?_getD, List.getElem?_eq_getElem h]; rfl
  rw [e] at hk
  rw [if_pos hk]
  simp
theorem ixI_none {p : Int → Bool} {l : List Int} (ha : ∀ i, i < l.length → p (l.getD i 0) = false) : ixI p l = -1 := by
  rw [ixI_drop (Nat.le_refl _) ha, List.drop_length]
  rfl
theorem firstI_or {p : Int → Bool} : ∀ (l : List Int), (∃ k, k < l.length ∧ (∀ i, i < k → p (l.getD i 0) = false) ∧ p (l.getD k 0) = true) ∨ ∀ i, i < l.length → p (l.getD i 0) = false
  | [] => .inr fun i hi => by simp at hi
  | r :: l => by
    by_cases h : p r = true
    · exact .inl ⟨0, by simp, fun i hi => by omega, by simpa using h⟩
    · rcases firstI_or (p := p) l with ⟨k, h1, h2, h3⟩ | h2
      · refine .inl ⟨k + 1, by simpa using h1, fun i hi => ?_, by simpa using h3⟩
        cases i with
        | zero => simpa using h
        | succ i => simpa using h2 i (by omega)
      · refine .inr fun i hi => ?_
        cases i with
        | zero => simpa using h
        | succ i => simpa using h2 i (by simpa using hi)
def RuleNmd (p : Int → Bool) (B1 B2 : Nat) (w : World) : Prop := ∀ wr, Below w.heap.size w wr → ∀ a : Int, Calls Try.prog 90 #[.int .i64 a, .pointer (some ⟨B1, 0, none⟩), .pointer (some ⟨B2, 0, none⟩)] wr fun e w' => e = .returned (.bool (p a)) ∧ Below wr.heap.size wr w'
set_option maxHeartbeats 2000000 in
theorem csNmdIdx (p : Int → Bool) (B1 B2 : Nat) (v : Value) (l : List Int) (w : World) (h : Sl .i64 w v l) (hd : RuleNmd p B1 B2 w) :
    Calls Try.prog 91 #[v, .func (.func 90) #[] #[.pointer (some ⟨B1, 0, none⟩), .pointer (some ⟨B2, 0, none⟩)]] w fun e w' => e = .returned (.int .i64 (ixI p l)) ∧ Below w.heap.size w w' := by
  have ml := h.len
  obtain ⟨a1, cap1, rfl, q1, -, h1⟩ := h
  obtain ⟨n, hn⟩ : ∃ n, n = l.length := ⟨_, rfl⟩
  obtain ⟨R, hR⟩ : ∃ R, R = ixI p l := ⟨_, rfl⟩
  have hH : ∀ k, k < n → (∀ i, i < k → p (l.getD i 0) = false) → p (l.getD k 0) = true → R = (k : Int) := fun k hk ha hh => hR.trans (ixI_hit (by omega) ha hh)
  have hN : (∀ i, i < n → p (l.getD i 0) = false) → R = -1 := fun ha => hR.trans (ixI_none (by rw [← hn]; exact ha))
  rw [← hR]
  have HH := hid hH
  have HN := hid hN
  have H1 := hid h1
  have HD := hid hd
  rw [← hn] at ml q1 H1 ⊢
  clear hH hN h1 hn hR hd
  go_enter Try.func91, Try.ntmps91
  go_wp2_with (fail)
  go_loopw [8] (fun iv wr => ∃ k : Nat, k ≤ n ∧ iv = .int .i64 k ∧ Hid (Below w.heap.size w wr) ∧ Hid (∀ i, i < k → p (l.getD i 0) = false)) (fun iv _ => n - (intOf iv).toNat)
  case atStart => exact ⟨0, by omega, rfl, Below.refl _ _, fun i hi => absurd hi (by omega)⟩
  case round =>
    obtain ⟨k, hk, rfl, hbel, hall⟩ := hrel
    by_cases hlt : k < n
    · rcases H1.out with hc | ⟨b1, o1, rfl, hb1, c1⟩
      · omega
      have hb1' := hb1 (by omega)
      have d1 := (hbel.out.cell (p := ⟨b1, o1 + k, none⟩) hb1').trans (c1 k hlt)
      have hh := hid (HH.out k hlt hall.out)
      have HNX := hid (show p (l.getD k 0) = false → ∀ i, i < k + 1 → p (l.getD i 0) = false from fun he i hi => by
        rcases Nat.lt_or_ge i k with h | h
        · exact hall.out i h
        · obtain rfl : i = k := by omega
          exact he)
      have HC := hid (HD.out wr hbel.out (l.getD k 0))
      clear c1
      generalize l.getD k 0 = x at d1 hh HNX HC
      obtain ⟨b, hb⟩ : ∃ b, b = p x := ⟨_, rfl⟩
      rw [← hb] at hh HNX HC
      clear hb
      cases b with
      | true =>
        have hr := hid (hh.out rfl)
        go_wp2_with (go_at_call 90; refine HC.out.mono ?_; rintro e wu ⟨rfl, hbu⟩; have HBU := hid (hbel.out.trans (hbu.mono hbel.out.size)); clear hbu)
        go_ret
        exact ⟨by rw [hr.out]; rfl, HBU.out⟩
      | false =>
        have hr := hid (HNX.out rfl)
        go_wp2_with (go_at_call 90; refine HC.out.mono ?_; rintro e wu ⟨rfl, hbu⟩; have HBU := hid (hbel.out.trans (hbu.mono hbel.out.size)); clear hbu)
        go_roundw
        case rel => exact ⟨k + 1, by omega, by go_num, HBU.out, hr.out⟩
        case measure => simp [intOf]; omega
    · obtain rfl : k = n := by omega
      have hr := hid (HN.out hall.out)
      go_wp2_with (fail)
      go_ret
      exact ⟨by rw [hr.out]; rfl, hbel.out⟩
theorem csNmdFirst (p : Int → Bool) (B1 B2 : Nat) (v : Value) (l : List Int) (w : World) (h : Sl .i64 w v l) (hd : RuleNmd p B1 B2 w) :
    Calls Try.prog 89 #[v, .func (.func 90) #[] #[.pointer (some ⟨B1, 0, none⟩), .pointer (some ⟨B2, 0, none⟩)]] w fun e w' => e = .returned (.tuple #[.int .i64 (fndI p l).1, .bool (fndI p l).2]) ∧ Below w.heap.size w w' := by
  have HI := hid (csNmdIdx p B1 B2 v l w h hd)
  have ml := h.len
  clear hd
  rcases firstI_or (p := p) l with ⟨k, hk, ha, hp⟩ | hn
  · rw [ixI_hit hk ha hp] at HI
    rw [fndI_hit (p := p) hk ha hp]
    clear ha hp
    obtain ⟨a1, cap1, rfl, q1, -, h1⟩ := h
    rcases h1 with hc | ⟨b1, o1, rfl, hb1, c1⟩
    · omega
    have D1 := hid (c1 k hk)
    have hb1' := hb1 (by omega)
    have hneg : decide ((k : Int) < 0) = false := by simp
    generalize l.getD k 0 = x at D1 ⊢
    generalize l.length = n at *
    clear c1 hb1
    go_enter Try.func89, Try.ntmps89
    go_wp2_with (go_at_call 91; refine HI.out.mono ?_; rintro e w1 ⟨rfl, hb1⟩; have HB1 := hid hb1; have g1 := (hb1.cell (p := ⟨b1, o1 + k, none⟩) hb1').trans D1.out; clear hb1)
    go_ret2
    exact ⟨rfl, HB1.out⟩
  · rw [ixI_none hn] at HI
    rw [fndI_none (p := p) hn]
    clear hn
    obtain ⟨a1, cap1, rfl, q1, -, -⟩ := h
    generalize l.length = n at *
    go_enter Try.func89, Try.ntmps89
    go_wp2_with (go_at_call 91; refine HI.out.mono ?_; rintro e w1 ⟨rfl, hb1⟩; have HB1 := hid hb1; clear hb1)
    go_ret2
    exact ⟨rfl, HB1.out⟩
theorem csNamed (v : Value) (l : List Int) (fin : Int) (wd : Bool) (w : World) (h : Sl .i64 w v l) :
    Calls Try.prog 88 #[v, .int .i64 fin, .bool wd] w fun e w' => e = .returned (.tuple #[.int .i64 (fndI (finB fin wd) l).1, .bool (fndI (finB fin wd) l).2]) ∧ Below w.heap.size w w' := by
  have hb0 : Below w.heap.size w ((w.alloc (.cells #[.int .i64 fin] 3)).alloc (.cells #[.bool wd] 4)) := by (repeat (first | exact Below.refl _ _ | exact below_drewN _ | refine Below.drew ?_ | refine Below.alloc ?_ (by simp) _ | refine Below.setCell ?_ (by simp) _ | refine below_drewN' ?_ _))
  have HB0 := hid hb0
  have x1 := ((Box.made w 3 [.int .i64 fin]).alloc (.cells #[.bool wd] 4)).cell 0
  have x2 := (box_last w (.cells #[.int .i64 fin] 3) 4 [.bool wd]).cell 0
  simp only [List.getElem?_cons_zero] at x1 x2
  obtain ⟨q, hq⟩ : ∃ q, q = (fin == 0) := ⟨_, rfl⟩
  have HS := hid (h.below hb0)
  obtain ⟨a1, cap1, hv⟩ := h.form
  cases q with
  | true =>
    have hr := hid (show fndI (finB fin wd) l = (0, false) from fndI_none fun i hi => by
      have h0 : fin = 0 := by simpa using hq.symm
      subst h0
      rfl)
    rw [hr.out]
    replace hq := hq.symm
    subst hv
    generalize l.length = n at *
    clear h hb0
    go_enter Try.func88, Try.ntmps88
    go_wp2_with (fail)
    go_ret2
    exact ⟨rfl, HB0.out⟩
  | false =>
    have hne : (fin != 0) = true := by
      have : ¬ fin = 0 := by simpa using hq.symm
      simpa using this
    have he : finB fin wd = fun x => finalS x == fin && (x == 87) == wd := by
      funext x
      unfold finB
      rw [hne, Bool.true_and]
    have HC := hid (csNmdFirst (finB fin wd) w.heap.size (w.heap.size + 1) v l _ HS.out (fun wr hwr a => by
      rw [he]
      exact csNmdRule _ _ fin wd a wr ((hwr.cell (World.block_lt_of_cell? _ _ x1)).trans x1) ((hwr.cell (World.block_lt_of_cell? _ _ x2)).trans x2)))
    generalize fndI (finB fin wd) l = R at HC ⊢
    replace hq := hq.symm
    subst hv
    generalize l.length = n at *
    clear h hb0 he HS hne
    go_enter Try.func88, Try.ntmps88
    go_wp2_with (go_at_call 89; refine HC.out.mono ?_; rintro e w1 ⟨rfl, hb1⟩; have HB1 := hid (HB0.out.trans (hb1.mono HB0.out.size)); clear hb1)
    go_ret2
    exact ⟨rfl, HB1.out⟩
theorem csByFinal (f : Int) (wide : Bool) (w : World) : Calls Try.prog 85 #[.int .i64 f, .bool wide] w fun e w' => e = .returned (.tuple #[.int .i64 (byFinS f wide).1, .bool (byFinS f wide).2]) ∧ Below w.heap.size w w' := by
  unfold byFinS
  have HC := hid (fun (v : Value) (w : World) (h : Sl .i64 w v (tabSets ++ [103])) => csNamed v (tabSets ++ [103]) f wide w h)
  generalize fndI (finB f wide) (tabSets ++ [103]) = R at HC ⊢
  have HA := hid (fun w => apiSets w)
  have HN := hid (show tabSets.length = 6 from rfl)
  generalize tabSets = T at HC HA HN ⊢
  go_enter Try.func85, Try.ntmps85
  go_wp2_with (first
    | (go_at_call 88; refine (HC.out v2 w2 HO2.out.sl).mono ?_; rintro e w3 ⟨rfl, hb3⟩; have HB3 := hid (HB2.out.trans (hb3.mono HB2.out.size)); clear hb3)
    | (at_builtin; go_loud (refine wpList_app _ rfl _ _ 22 rfl .i64 w.heap.size 3 8 Try.underlying22 Try.infoI64 _ T [103] rfl (HO1.out.alloc (.cells #[.int .i64 103] 3)) _ rfl (one_sl (by first | simp | rfl)) (by have := HN.out; unfold maxLen; simp; omega) (by have := HN.out; simp; omega) (by have := HB1.out.size; simp; omega) ?_); intro v2 w2 ho2 hg2 hb2 hn2; have HO2 := hid ho2; have HB2 := hid ((HB1.out.alloc HB1.out.size (.cells #[.int .i64 103] 3)).trans (hb2.mono (Nat.le_refl _))); clear ho2 hg2 hb2 hn2)
    | (go_at_call 24; refine (HA.out _).mono ?_; rintro e w1 ⟨v1, rfl, ho1, hb1⟩; obtain ⟨a1, c1, hv1⟩ := ho1.sl.form; rw [HN.out] at hv1; subst hv1; have HO1 := hid ho1; have HB1 := hid hb1; clear ho1 hb1))
  go_ret2
  exact ⟨rfl, HB3.out⟩
end Go.Proofs.Ytobicndpkojgiaa

/-! Cs16e -/
namespace Go.Proofs.Ytobicndpkojgiaa
open Go.RowKit

set_option maxHeartbeats 2000000 in
theorem csGet (s p : Int) (w : World) : Calls Try.prog 20 #[.int .i64 s, .int .i64 p] w fun e w' => e = .returned (.tuple #[.int .i64 (getS16 s p).1, .bool (getS16 s p).2]) ∧ Below w.heap.size w w' := by
  unfold getS16
  have hb0 : Below w.heap.size w ((w.alloc (.cells #[.int .i64 s] 3)).alloc (.cells #[.int .i64 p] 3)) := by (repeat (first | exact Below.refl _ _ | exact below_drewN _ | refine Below.drew ?_ | refine Below.alloc ?_ (by simp) _ | refine Below.setCell ?_ (by simp) _ | refine below_drewN' ?_ _))
  have HB0 := hid hb0
  have x1 := ((Box.made w 3 [.int .i64 s]).alloc (.cells #[.int .i64 p] 3)).cell 0
  have x2 := (box_last w (.cells #[.int .i64 s] 3) 3 [.int .i64 p]).cell 0
  simp only [List.getElem?_cons_zero] at x1 x2
  have X1 := hid x1
  have X2 := hid x2
  clear hb0 x1 x2
  have HF := hid (fun (w1 : World) (v : Value) (h : Sg w1 v tabCodes) (hb : Below ((w.alloc (.cells #[.int .i64 s] 3)).alloc (.cells #[.int .i64 p] 3)).heap.size ((w.alloc (.cells #[.int .i64 s] 3)).alloc (.cells #[.int .i64 p] 3)) w1) =>
    csGetFirst (fun r => r.f == s && r.t == p) w.heap.size (w.heap.size + 1) v tabCodes w1 h (fun wr hwr a b c =>
      csGetRule _ _ s p a b c wr (((hb.trans (hwr.mono hb.size)).cell (World.block_lt_of_cell? _ _ X1.out)).trans X1.out) (((hb.trans (hwr.mono hb.size)).cell (World.block_lt_of_cell? _ _ X2.out)).trans X2.out)))
  generalize fndS (fun r => r.f == s && r.t == p) tabCodes = R at HF ⊢
  obtain ⟨⟨rf, rt, rv⟩, ok⟩ := R
  simp only at HF ⊢
  have HA := hid (fun w => apiCodes w)
  generalize tabCodes = T at HF HA
  go_enter Try.func20, Try.ntmps20
  go_wp2_with (first
    | (go_at_call 35; refine (HF.out w1 _ HO1.out.sg HB1.out).mono ?_; rintro e w2 ⟨rfl, hb2⟩; have HB2 := hid ((HB0.out.trans (HB1.out.mono HB0.out.size)).trans (hb2.mono (HB0.out.trans (HB1.out.mono HB0.out.size)).size)); clear hb2)
    | (go_at_call 16; refine (HA.out _).mono ?_; rintro e w1 ⟨v1, rfl, ho1, hb1⟩; obtain ⟨a1, c1, hv1⟩ := ho1.form; obtain ⟨n1, hn1⟩ : ∃ n, n = T.length := ⟨_, rfl⟩; rw [← hn1] at hv1; subst hv1; have HO1 := hid ho1; have HB1 := hid hb1; clear ho1 hb1 hn1))
  go_ret2
  exact ⟨rfl, (HB2.out.alloc HB2.out.size _)⟩
set_option maxHeartbeats 2000000 in
theorem csFind (s p : Int) (w : World) : Calls Try.prog 39 #[.int .i64 s, .int .i64 p] w fun e w' => e = .returned (.tuple #[.int .i64 (findS16 s p).1, .bool (findS16 s p).2]) ∧ Below w.heap.size w w' := by
  unfold findS16
  have hb0 : Below w.heap.size w ((w.alloc (.cells #[.int .i64 s] 3)).alloc (.cells #[.int .i64 p] 3)) := by (repeat (first | exact Below.refl _ _ | exact below_drewN _ | refine Below.drew ?_ | refine Below.alloc ?_ (by simp) _ | refine Below.setCell ?_ (by simp) _ | refine below_drewN' ?_ _))
  have HB0 := hid hb0
  have x1 := ((Box.made w 3 [.int .i64 s]).alloc (.cells #[.int .i64 p] 3)).cell 0
  have x2 := (box_last w (.cells #[.int .i64 s] 3) 3 [.int .i64 p]).cell 0
  simp only [List.getElem?_cons_zero] at x1 x2
  have X1 := hid x1
  have X2 := hid x2
  clear hb0 x1 x2
  have HF := hid (fun (w1 : World) (v : Value) (h : Sg w1 v tabCodes) (hb : Below ((w.alloc (.cells #[.int .i64 s] 3)).alloc (.cells #[.int .i64 p] 3)).heap.size ((w.alloc (.cells #[.int .i64 s] 3)).alloc (.cells #[.int .i64 p] 3)) w1) =>
    csFindFirst (fun r => r.f == s && r.v == p) w.heap.size (w.heap.size + 1) v tabCodes w1 h (fun wr hwr a b c =>
      csFindRule _ _ s p a b c wr (((hb.trans (hwr.mono hb.size)).cell (World.block_lt_of_cell? _ _ X1.out)).trans X1.out) (((hb.trans (hwr.mono hb.size)).cell (World.block_lt_of_cell? _ _ X2.out)).trans X2.out)))
  generalize fndS (fun r => r.f == s && r.v == p) tabCodes = R at HF ⊢
  obtain ⟨⟨rf, rt, rv⟩, ok⟩ := R
  simp only at HF ⊢
  have HA := hid (fun w => apiCodes w)
  generalize tabCodes = T at HF HA
  go_enter Try.func39, Try.ntmps39
  go_wp2_with (first
    | (go_at_call 35; refine (HF.out w1 _ HO1.out.sg HB1.out).mono ?_; rintro e w2 ⟨rfl, hb2⟩; have HB2 := hid ((HB0.out.trans (HB1.out.mono HB0.out.size)).trans (hb2.mono (HB0.out.trans (HB1.out.mono HB0.out.size)).size)); clear hb2)
    | (go_at_call 16; refine (HA.out _).mono ?_; rintro e w1 ⟨v1, rfl, ho1, hb1⟩; obtain ⟨a1, c1, hv1⟩ := ho1.form; obtain ⟨n1, hn1⟩ : ∃ n, n = T.length := ⟨_, rfl⟩; rw [← hn1] at hv1; subst hv1; have HO1 := hid ho1; have HB1 := hid hb1; clear ho1 hb1 hn1))
  go_ret2
  exact ⟨rfl, (HB2.out.alloc HB2.out.size _)⟩
set_option maxHeartbeats 2000000 in
theorem csMark (p : Int) (w : World) : Calls Try.prog 82 #[.int .i64 p] w fun e w' => e = .returned (.tuple #[.int .i64 (markS p).1, .int .i64 (markS p).2.1, .bool (markS p).2.2]) ∧ Below w.heap.size w w' := by
  unfold markS
  have hb0 : Below w.heap.size w (w.alloc (.cells #[.int .i64 p] 3)) := by (repeat (first | exact Below.refl _ _ | exact below_drewN _ | refine Below.drew ?_ | refine Below.alloc ?_ (by simp) _ | refine Below.setCell ?_ (by simp) _ | refine below_drewN' ?_ _))
  have HB0 := hid hb0
  have x1 := (Box.made w 3 [.int .i64 p]).cell 0
  simp only [List.getElem?_cons_zero] at x1
  have X1 := hid x1
  clear hb0 x1
  have HF := hid (fun (w1 : World) (v : Value) (h : Sg w1 v tabAccents) (hb : Below (w.alloc (.cells #[.int .i64 p] 3)).heap.size (w.alloc (.cells #[.int .i64 p] 3)) w1) =>
    csMarkFirst (fun r => r.f == p) w.heap.size v tabAccents w1 h (fun wr hwr a b c =>
      csMarkRule _ p a b c wr (((hb.trans (hwr.mono hb.size)).cell (World.block_lt_of_cell? _ _ X1.out)).trans X1.out)))
  generalize fndS (fun r => r.f == p) tabAccents = R at HF ⊢
  obtain ⟨⟨rf, rt, rv⟩, ok⟩ := R
  simp only at HF ⊢
  have HA := hid (fun w => apiAccents w)
  generalize tabAccents = T at HF HA
  go_enter Try.func82, Try.ntmps82
  go_wp2_with (first
    | (go_at_call 46; refine (HF.out w1 _ HO1.out.sg HB1.out).mono ?_; rintro e w2 ⟨rfl, hb2⟩; have HB2 := hid ((HB0.out.trans (HB1.out.mono HB0.out.size)).trans (hb2.mono (HB0.out.trans (HB1.out.mono HB0.out.size)).size)); clear hb2)
    | (go_at_call 21; refine (HA.out _).mono ?_; rintro e w1 ⟨v1, rfl, ho1, hb1⟩; obtain ⟨a1, c1, hv1⟩ := ho1.form; obtain ⟨n1, hn1⟩ : ∃ n, n = T.length := ⟨_, rfl⟩; rw [← hn1] at hv1; subst hv1; have HO1 := hid ho1; have HB1 := hid hb1; clear ho1 hb1 hn1))
  go_quiet (fail)
  go_wp2
  go_ret3
  exact ⟨rfl, below_drewN' (HB2.out.alloc HB2.out.size _) _⟩
theorem csIsLetter (c : Int) (w : World) : Calls Try.prog 64 #[.int .i64 c] w fun e w' => e = .returned (.bool (letB c)) ∧ w = w' := by
  by_cases h1 : 65 ≤ c
  · by_cases h2 : c ≤ 90
    · have hr := hid (show letB c = true from decide_eq_true (.inl ⟨h1, h2⟩))
      go_enter Try.func64, Try.ntmps64
      go_wp2_with (fail)
      go_ret
      exact ⟨by rw [hr.out]; rfl, rfl⟩
    · by_cases h3 : 97 ≤ c
      · obtain ⟨q, hq⟩ : ∃ q, q = decide (c ≤ 122) := ⟨_, rfl⟩
        have hr := hid (show letB c = q from by rw [hq]; unfold letB; exact decide_eq_decide.2 (by omega))
        replace hq := hq.symm
        go_enter Try.func64, Try.ntmps64
        go_wp2_with (fail)
        go_ret
        exact ⟨by rw [hr.out]; first | rfl | (rw [← hq]; rfl) | simp_all, rfl⟩
      · have hr := hid (show letB c = false from decide_eq_false (by omega))
        go_enter Try.func64, Try.ntmps64
        go_wp2_with (fail)
        go_ret
        exact ⟨by rw [hr.out]; rfl, rfl⟩
  · have h3 : ¬ 97 ≤ c := by omega
    have hr := hid (show letB c = false from decide_eq_false (by omega))
    go_enter Try.func64, Try.ntmps64
    go_wp2_with (fail)
    go_ret
    exact ⟨by rw [hr.out]; rfl, rfl⟩
end Go.Proofs.Ytobicndpkojgiaa
