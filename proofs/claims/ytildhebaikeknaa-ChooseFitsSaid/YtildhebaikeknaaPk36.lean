/- Several texts in one: Utf13c, Cs16a, Cs16b, Cs16c, Cs16d, Cs16e. -/
import Derived.Test.YtildhebaikeknaaPk35
import Derived.Test.YtildhebaikeknaaPk2
import Derived.Test.YtildhebaikeknaaPk27
import Derived.Test.YtildhebaikeknaaPk21
import Derived.Test.YtildhebaikeknaaPk14
import Derived.Test.YtildhebaikeknaaPk26
import Derived.Test.YtildhebaikeknaaPk5
import Derived.Test.YtildhebaikeknaaPk1
import Derived.Test.YtildhebaikeknaaPk11
/-! Utf13c -/
namespace Go.Proofs.Ytildhebaikeknaa
open Go.RowKit

set_option maxHeartbeats 4000000 in
theorem utfPut (v : Value) (s : List Int) (w : World) (hs : Sl .i64 w v s) (hl : s.length ≤ 100000) : Calls Try.prog 15 #[v] w fun e w' =>
    ∃ x, e = .returned (.tuple #[x, .int .i64 (outAt (putU s)), .int .i64 (outE 14 (putU s))]) ∧ Own .u8 5 w.heap.size w' x (outL (putU s)) ∧ Below w.heap.size w w' := by
  obtain ⟨a1, cap1, rfl, q1, -, h1⟩ := hs
  obtain ⟨n, hn⟩ : ∃ n, n = s.length := ⟨_, rfl⟩
  have HN := hid hn
  have H1 := hid h1
  rw [← hn] at q1 hl ⊢
  clear h1 hn
  go_enter Try.func15, Try.ntmps15
  go_wp2
  go_loopw [2, 9] (fun bv iv wr => ∃ (j : Nat) (x : List Int), j ≤ n ∧ iv = .int .i64 j ∧ Hid (Own .u8 5 w.heap.size wr bv x) ∧ Hid (Below w.heap.size w wr) ∧ Hid (putU (s.take j) = .inl x) ∧ x.length ≤ 4 * j) (fun _ iv _ => n - (intOf iv).toNat)
  case atStart => exact ⟨0, [], by omega, rfl, Own.nil _ _ _ _, Below.refl _ _, by show putU (s.take 0) = _; rfl, by simp⟩
  case round =>
    obtain ⟨j, x, hj, rfl, hown, hbel, hput, hxl⟩ := hrel
    by_cases hlt : j < n
    · rcases H1.out with hcc | ⟨b1, o1, rfl, hb1, hc⟩
      · omega
      have hb1' := hb1 (by have := HN.out; omega)
      have d1 := (hbel.out.cell (p := ⟨b1, o1 + j, none⟩) hb1').trans (hc j (by have := HN.out; omega))
      obtain ⟨p1, p2⟩ := put_part (by have := HN.out; omega) hput.out
      clear hc hb1 hb1'
      generalize s.getD j 0 = c at d1 p1 p2
      cases hsc : scalarB c with
      | false =>
        have HSC := hid hsc
        have HP := hid (p1 hsc)
        clear p1 p2 hsc
        go_wp2_with (go_at_call 21; refine (ucdScalar c _).mono ?_; rw [HSC.out]; rintro e w1 ⟨rfl, rfl⟩)
        go_ret3
        exact ⟨_, by rw [HP.out]; rfl, by rw [HP.out]; exact Own.nil .u8 5 _ _, hbel.out⟩
      | true =>
        have HSC := hid hsc
        have HP := hid (p2 hsc)
        clear p1 p2 hsc
        have hel := u8enc_len c
        have HX := hid (show (x ++ u8enc c).length = x.length + (u8enc c).length by simp)
        go_wp2_with (first
          | (go_at_call 21; refine (ucdScalar c _).mono ?_; rw [HSC.out]; rintro e w1 ⟨rfl, rfl⟩)
          | (go_at_call 22; refine (utfAppend _ x c w.heap.size _ HSC.out hown.out hbel.out.size (by omega)).mono ?_; rintro e w1 ⟨v1, rfl, ho1, hb1⟩; have HO5 := hid ho1; have HB5 := hid (hbel.out.trans hb1); clear ho1 hb1))
        go_roundw
        case rel => exact ⟨j + 1, x ++ u8enc c, by omega, by go_num, HO5.out, HB5.out, HP.out, by rw [HX.out]; omega⟩
        case measure => simp [intOf]; omega
    · obtain rfl : j = n := by omega
      have HP := hid (show putU s = .inl x by rw [← hput.out, HN.out, List.take_length])
      go_wp2
      go_ret3
      exact ⟨_, by rw [HP.out]; rfl, by rw [HP.out]; exact hown.out, hbel.out⟩
theorem utfPutOk : UPutOk := fun v s w hs _ hl => (utfPut v s w hs hl).mono fun _ _ ⟨x, h1, h2, h3⟩ => ⟨x, h1, h2.sl, h3⟩

end Go.Proofs.Ytildhebaikeknaa

/-! Cs16a -/
namespace Go.Proofs.Ytildhebaikeknaa
open Go.RowKit

theorem loadCd {a b c : Value} {B : Nat} {w : World} (h : Box 67 [a, b, c] B w) : (loadVar 67 ⟨B, 0, none⟩).run Try.prog w = .ok (.agg #[a, b, c]) w := by
  have k0 := h.cell 0
  have k1 := h.cell 1
  have k2 := h.cell 2
  simp only [List.getElem?_cons_zero, List.getElem?_cons_succ] at k0 k1 k2
  simp [go_sem, k0, k1, k2]
theorem csWide (s : Int) (w : World) : Calls Try.prog 47 #[.int .i64 s] w fun e w' => e = .returned (.bool (s == 87)) ∧ w = w' := by
  go_enter Try.func47, Try.ntmps47
  go_wp2_with (fail)
  go_ret
  exact ⟨rfl, rfl⟩
theorem csFindRule (B1 B2 : Nat) (s p a b c : Int) (w : World) (h1 : w.cell? ⟨B1, 0, none⟩ = some (.int .i64 s)) (h2 : w.cell? ⟨B2, 0, none⟩ = some (.int .i64 p)) :
    Calls Try.prog 46 #[.agg #[.int .i64 a, .int .i64 b, .int .i64 c], .pointer (some ⟨B1, 0, none⟩), .pointer (some ⟨B2, 0, none⟩)] w fun e w' => e = .returned (.bool (a == s && c == p)) ∧ Below w.heap.size w w' := by
  have hb0 : Below w.heap.size w (w.alloc (.cells #[.int .i64 a, .int .i64 b, .int .i64 c] 67)) := by (repeat (first | exact Below.refl _ _ | exact below_drewN _ | refine Below.drew ?_ | refine Below.alloc ?_ (by simp) _ | refine Below.setCell ?_ (by simp) _ | refine below_drewN' ?_ _))
  have HB0 := hid hb0
  have x1 := (hb0.cell (p := ⟨B1, 0, none⟩) (World.block_lt_of_cell? w _ h1)).trans h1
  have x2 := (hb0.cell (p := ⟨B2, 0, none⟩) (World.block_lt_of_cell? w _ h2)).trans h2
  clear h1 h2 hb0
  obtain ⟨q, hq⟩ : ∃ q, q = (a == s) := ⟨_, rfl⟩
  rw [← hq]
  replace hq := hq.symm
  cases q with
  | true =>
    go_enter Try.func46, Try.ntmps46
    go_wp2_with (fail)
    go_ret
    exact ⟨rfl, HB0.out⟩
  | false =>
    go_enter Try.func46, Try.ntmps46
    go_wp2_with (fail)
    go_ret
    exact ⟨rfl, HB0.out⟩
theorem csAccARule (B1 : Nat) (p a b c : Int) (w : World) (h1 : w.cell? ⟨B1, 0, none⟩ = some (.int .i64 p)) :
    Calls Try.prog 50 #[.agg #[.int .i64 a, .int .i64 b, .int .i64 c], .pointer (some ⟨B1, 0, none⟩)] w fun e w' => e = .returned (.bool (c == p)) ∧ Below w.heap.size w w' := by
  have hb0 : Below w.heap.size w (w.alloc (.cells #[.int .i64 a, .int .i64 b, .int .i64 c] 73)) := by (repeat (first | exact Below.refl _ _ | exact below_drewN _ | refine Below.drew ?_ | refine Below.alloc ?_ (by simp) _ | refine Below.setCell ?_ (by simp) _ | refine below_drewN' ?_ _))
  have HB0 := hid hb0
  have x1 := (hb0.cell (p := ⟨B1, 0, none⟩) (World.block_lt_of_cell? w _ h1)).trans h1
  clear h1 hb0
  go_enter Try.func50, Try.ntmps50
  go_wp2_with (fail)
  go_ret
  exact ⟨rfl, HB0.out⟩
theorem csOnLRule (B1 : Nat) (v : Value) (l : List Int) (a b c : Int) (w : World) (hl : l.length = 2) (h1 : w.cell? ⟨B1, 0, none⟩ = some v) (hs : Sl .i64 w v l) :
    Calls Try.prog 63 #[.agg #[.int .i64 a, .int .i64 b, .int .i64 c], .pointer (some ⟨B1, 0, none⟩)] w fun e w' => e = .returned (.bool (b == l.getD 1 0)) ∧ Below w.heap.size w w' := by
  have hb0 : Below w.heap.size w (w.alloc (.cells #[.int .i64 a, .int .i64 b, .int .i64 c] 73)) := by (repeat (first | exact Below.refl _ _ | exact below_drewN _ | refine Below.drew ?_ | refine Below.alloc ?_ (by simp) _ | refine Below.setCell ?_ (by simp) _ | refine below_drewN' ?_ _))
  have HB0 := hid hb0
  have x1 := (hb0.cell (p := ⟨B1, 0, none⟩) (World.block_lt_of_cell? w _ h1)).trans h1
  have HX := hid (Box.made w 73 [.int .i64 a, .int .i64 b, .int .i64 c])
  have y1 := HX.out.cell 1
  simp only [List.getElem?_cons_zero, List.getElem?_cons_succ] at y1
  obtain ⟨a1, cap1, rfl, q1, -, hc⟩ := hs
  rcases hc with hc | ⟨b1, o1, rfl, hb1, c1⟩
  · omega
  have d1 := (hb0.cell (p := ⟨b1, o1 + 1, none⟩) (hb1 (by omega))).trans (c1 1 (by omega))
  rw [hl] at x1 q1
  generalize l.getD 1 0 = y at d1 ⊢
  clear h1 hb0 c1 hb1 hl
  go_enter Try.func63, Try.ntmps63
  go_wp2
  generalize w.alloc (.cells #[.int .i64 a, .int .i64 b, .int .i64 c] 73) = W at *
  go_quiet (fail)
  go_wp2
  go_ret
  exact ⟨rfl, below_drewN' HB0.out _⟩
end Go.Proofs.Ytildhebaikeknaa

/-! Cs16b -/
namespace Go.Proofs.Ytildhebaikeknaa
open Go.RowKit

def RuleFind (p : Rg → Bool) (B1 B2 : Nat) (w : World) : Prop := ∀ wr, Below w.heap.size w wr → ∀ a b c : Int, Calls Try.prog 46 #[.agg #[.int .i64 a, .int .i64 b, .int .i64 c], .pointer (some ⟨B1, 0, none⟩), .pointer (some ⟨B2, 0, none⟩)] wr fun e w' => e = .returned (.bool (p ⟨a, b, c⟩)) ∧ Below wr.heap.size wr w'
set_option maxHeartbeats 2000000 in
theorem csFindIdx (p : Rg → Bool) (B1 B2 : Nat) (v : Value) (l : List Rg) (w : World) (h : Sg w v l) (hd : RuleFind p B1 B2 w) :
    Calls Try.prog 57 #[v, .func (.func 46) #[] #[.pointer (some ⟨B1, 0, none⟩), .pointer (some ⟨B2, 0, none⟩)]] w fun e w' => e = .returned (.int .i64 (ixS p l)) ∧ Below w.heap.size w w' := by
  have ml := h.len
  obtain ⟨a1, cap1, rfl, q1, -, h1⟩ := h
  obtain ⟨n, hn⟩ : ∃ n, n = l.length := ⟨_, rfl⟩
  obtain ⟨R, hR⟩ : ∃ R, R = ixS p l := ⟨_, rfl⟩
  have hH : ∀ k, k < n → (∀ i, i < k → p (l.getD i noRg) = false) → p (l.getD k noRg) = true → R = (k : Int) := fun k hk ha hh => hR.trans (ixS_hit (by omega) ha hh)
  have hN : (∀ i, i < n → p (l.getD i noRg) = false) → R = -1 := fun ha => hR.trans (ixS_none (by rw [← hn]; exact ha))
  rw [← hR]
  have HH := hid hH
  have HN := hid hN
  have H1 := hid h1
  have HD := hid hd
  rw [← hn] at ml q1 H1 ⊢
  clear hH hN h1 hn hR hd
  go_enter Try.func57, Try.ntmps57
  go_wp2_with (fail)
  go_loopw [8] (fun iv wr => ∃ k : Nat, k ≤ n ∧ iv = .int .i64 k ∧ Hid (Below w.heap.size w wr) ∧ Hid (∀ i, i < k → p (l.getD i noRg) = false)) (fun iv _ => n - (intOf iv).toNat)
  case atStart => exact ⟨0, by omega, rfl, Below.refl _ _, fun i hi => absurd hi (by omega)⟩
  case round =>
    obtain ⟨k, hk, rfl, hbel, hall⟩ := hrel
    by_cases hlt : k < n
    · rcases H1.out with hc | ⟨b1, o1, rfl, hb1, c1⟩
      · omega
      have hb1' := hb1 (by omega)
      obtain ⟨d1, d2, d3⟩ := c1 k hlt
      have d1 := (hbel.out.cell (p := ⟨b1, o1 + k * 3, none⟩) hb1').trans d1
      have d2 := (hbel.out.cell (p := ⟨b1, o1 + k * 3 + 1, none⟩) hb1').trans d2
      have d3 := (hbel.out.cell (p := ⟨b1, o1 + k * 3 + 2, none⟩) hb1').trans d3
      have hh := hid (HH.out k hlt hall.out)
      have HNX := hid (show p (l.getD k noRg) = false → ∀ i, i < k + 1 → p (l.getD i noRg) = false from fun he i hi => by
        rcases Nat.lt_or_ge i k with h | h
        · exact hall.out i h
        · obtain rfl : i = k := by omega
          exact he)
      clear c1
      generalize l.getD k noRg = r at d1 d2 d3 hh HNX
      obtain ⟨rf, rt, rv⟩ := r
      simp only at d1 d2 d3 hh HNX
      obtain ⟨b, hb⟩ : ∃ b, b = p ⟨rf, rt, rv⟩ := ⟨_, rfl⟩
      rw [← hb] at hh HNX
      have HC := hid (HD.out wr hbel.out rf rt rv)
      rw [← hb] at HC
      clear hb
      cases b with
      | true =>
        have hr := hid (hh.out rfl)
        go_wp2_with (go_at_call 46; refine HC.out.mono ?_; rintro e wu ⟨rfl, hbu⟩; have HBU := hid (hbel.out.trans (hbu.mono hbel.out.size)); clear hbu)
        go_ret
        exact ⟨by rw [hr.out]; rfl, HBU.out⟩
      | false =>
        have hr := hid (HNX.out rfl)
        go_wp2_with (go_at_call 46; refine HC.out.mono ?_; rintro e wu ⟨rfl, hbu⟩; have HBU := hid (hbel.out.trans (hbu.mono hbel.out.size)); clear hbu)
        go_roundw
        case rel => exact ⟨k + 1, by omega, by go_num, HBU.out, hr.out⟩
        case measure => simp [intOf]; omega
    · obtain rfl : k = n := by omega
      have hr := hid (HN.out hall.out)
      go_wp2_with (fail)
      go_ret
      exact ⟨by rw [hr.out]; rfl, hbel.out⟩
set_option maxHeartbeats 2000000 in
theorem csFindFirst (p : Rg → Bool) (B1 B2 : Nat) (v : Value) (l : List Rg) (w : World) (h : Sg w v l) (hd : RuleFind p B1 B2 w) :
    Calls Try.prog 44 #[v, .func (.func 46) #[] #[.pointer (some ⟨B1, 0, none⟩), .pointer (some ⟨B2, 0, none⟩)]] w fun e w' => e = .returned (.tuple #[.agg #[.int .i64 (fndS p l).1.f, .int .i64 (fndS p l).1.t, .int .i64 (fndS p l).1.v], .bool (fndS p l).2]) ∧ Below w.heap.size w w' := by
  have hb0 : Below w.heap.size w (w.alloc (.cells #[.int .i64 0, .int .i64 0, .int .i64 0] 67)) := by (repeat (first | exact Below.refl _ _ | exact below_drewN _ | refine Below.drew ?_ | refine Below.alloc ?_ (by simp) _ | refine Below.setCell ?_ (by simp) _ | refine below_drewN' ?_ _))
  have HB0 := hid hb0
  have HX := hid (Box.made w 67 [.int .i64 0, .int .i64 0, .int .i64 0])
  have HI := hid (csFindIdx p B1 B2 v l _ (h.below hb0) (fun wr hwr a b c => hd wr (hb0.trans (hwr.mono hb0.size)) a b c))
  have HS := hid (h.below hb0)
  have ml := h.len
  clear hd hb0
  rcases first_or (p := p) l with ⟨k, hk, ha, hp⟩ | hn
  · rw [ixS_hit hk ha hp] at HI
    rw [fndS_hit (p := p) hk ha hp]
    clear ha hp
    obtain ⟨a1, cap1, rfl, q1, -, h1⟩ := h
    rcases h1 with hc | ⟨b1, o1, rfl, hb1, c1⟩
    · omega
    obtain ⟨d1, d2, d3⟩ := c1 k hk
    have D1 := hid d1
    have D2 := hid d2
    have D3 := hid d3
    have hb1' := hb1 (by omega)
    have hneg : decide ((k : Int) < 0) = false := by simp
    generalize l.getD k noRg = r at D1 D2 D3 ⊢
    obtain ⟨rf, rt, rv⟩ := r
    simp only at D1 D2 D3 ⊢
    generalize l.length = n at *
    clear d1 d2 d3 c1 HS hb1
    go_enter Try.func44, Try.ntmps44
    go_wp2_with (go_at_call 57; refine HI.out.mono ?_; rintro e w1 ⟨rfl, hb1⟩; have HB1 := hid (HB0.out.trans (hb1.mono HB0.out.size)); have HX1 := hid (HX.out.below hb1 HX.out.lt); have g1 := (HB1.out.cell (p := ⟨b1, o1 + k * 3, none⟩) hb1').trans D1.out; have g2 := (HB1.out.cell (p := ⟨b1, o1 + k * 3 + 1, none⟩) hb1').trans D2.out; have g3 := (HB1.out.cell (p := ⟨b1, o1 + k * 3 + 2, none⟩) hb1').trans D3.out; have z0 := HX1.out.ice 0; have z1 := HX1.out.ice 1; have z2 := HX1.out.ice 2; have y0 := HX1.out.cell 0; have y1 := HX1.out.cell 1; have y2 := HX1.out.cell 2; simp only [List.getElem?_cons_zero, List.getElem?_cons_succ] at y0 y1 y2; clear hb1)
    refine bodyPost_ret (results_two rfl rfl (loadCd (HX1.out.three _ _ _))) rfl ⟨rfl, below_three HB1.out (Nat.le_refl _)⟩
  · rw [ixS_none hn] at HI
    rw [fndS_none (p := p) hn]
    clear hn HS
    obtain ⟨a1, cap1, rfl, q1, -, -⟩ := h
    generalize l.length = n at *
    go_enter Try.func44, Try.ntmps44
    go_wp2_with (go_at_call 57; refine HI.out.mono ?_; rintro e w1 ⟨rfl, hb1⟩; have HB1 := hid (HB0.out.trans (hb1.mono HB0.out.size)); have HX1 := hid ((HX.out.below hb1 HX.out.lt).alloc (.cells #[.int .i64 0, .int .i64 0, .int .i64 0] 67)); have z0 := HX1.out.ice 0; have z1 := HX1.out.ice 1; have z2 := HX1.out.ice 2; have y0 := HX1.out.cell 0; have y1 := HX1.out.cell 1; have y2 := HX1.out.cell 2; simp only [List.getElem?_cons_zero, List.getElem?_cons_succ] at y0 y1 y2; clear hb1)
    refine bodyPost_ret (results_two rfl rfl (loadCd (HX1.out.three _ _ _))) rfl ⟨rfl, below_three (HB1.out.alloc HB1.out.size _) (Nat.le_refl _)⟩
end Go.Proofs.Ytildhebaikeknaa

/-! Cs16c -/
namespace Go.Proofs.Ytildhebaikeknaa
open Go.RowKit

def RuleAccA (p : Rg → Bool) (B1 : Nat) (w : World) : Prop := ∀ wr, Below w.heap.size w wr → ∀ a b c : Int, Calls Try.prog 50 #[.agg #[.int .i64 a, .int .i64 b, .int .i64 c], .pointer (some ⟨B1, 0, none⟩)] wr fun e w' => e = .returned (.bool (p ⟨a, b, c⟩)) ∧ Below wr.heap.size wr w'
set_option maxHeartbeats 2000000 in
theorem csAccAIdx (p : Rg → Bool) (B1 : Nat) (v : Value) (l : List Rg) (w : World) (h : Sg w v l) (hd : RuleAccA p B1 w) :
    Calls Try.prog 60 #[v, .func (.func 50) #[] #[.pointer (some ⟨B1, 0, none⟩)]] w fun e w' => e = .returned (.int .i64 (ixS p l)) ∧ Below w.heap.size w w' := by
  have ml := h.len
  obtain ⟨a1, cap1, rfl, q1, -, h1⟩ := h
  obtain ⟨n, hn⟩ : ∃ n, n = l.length := ⟨_, rfl⟩
  obtain ⟨R, hR⟩ : ∃ R, R = ixS p l := ⟨_, rfl⟩
  have hH : ∀ k, k < n → (∀ i, i < k → p (l.getD i noRg) = false) → p (l.getD k noRg) = true → R = (k : Int) := fun k hk ha hh => hR.trans (ixS_hit (by omega) ha hh)
  have hN : (∀ i, i < n → p (l.getD i noRg) = false) → R = -1 := fun ha => hR.trans (ixS_none (by rw [← hn]; exact ha))
  rw [← hR]
  have HH := hid hH
  have HN := hid hN
  have H1 := hid h1
  have HD := hid hd
  rw [← hn] at ml q1 H1 ⊢
  clear hH hN h1 hn hR hd
  go_enter Try.func60, Try.ntmps60
  go_wp2_with (fail)
  go_loopw [8] (fun iv wr => ∃ k : Nat, k ≤ n ∧ iv = .int .i64 k ∧ Hid (Below w.heap.size w wr) ∧ Hid (∀ i, i < k → p (l.getD i noRg) = false)) (fun iv _ => n - (intOf iv).toNat)
  case atStart => exact ⟨0, by omega, rfl, Below.refl _ _, fun i hi => absurd hi (by omega)⟩
  case round =>
    obtain ⟨k, hk, rfl, hbel, hall⟩ := hrel
    by_cases hlt : k < n
    · rcases H1.out with hc | ⟨b1, o1, rfl, hb1, c1⟩
      · omega
      have hb1' := hb1 (by omega)
      obtain ⟨d1, d2, d3⟩ := c1 k hlt
      have d1 := (hbel.out.cell (p := ⟨b1, o1 + k * 3, none⟩) hb1').trans d1
      have d2 := (hbel.out.cell (p := ⟨b1, o1 + k * 3 + 1, none⟩) hb1').trans d2
      have d3 := (hbel.out.cell (p := ⟨b1, o1 + k * 3 + 2, none⟩) hb1').trans d3
      have hh := hid (HH.out k hlt hall.out)
      have HNX := hid (show p (l.getD k noRg) = false → ∀ i, i < k + 1 → p (l.getD i noRg) = false from fun he i hi => by
        rcases Nat.lt_or_ge i k with h | h
        · exact hall.out i h
        · obtain rfl : i = k := by omega
          exact he)
      clear c1
      generalize l.getD k noRg = r at d1 d2 d3 hh HNX
      obtain ⟨rf, rt, rv⟩ := r
      simp only at d1 d2 d3 hh HNX
      obtain ⟨b, hb⟩ : ∃ b, b = p ⟨rf, rt, rv⟩ := ⟨_, rfl⟩
      rw [← hb] at hh HNX
      have HC := hid (HD.out wr hbel.out rf rt rv)
      rw [← hb] at HC
      clear hb
      cases b with
      | true =>
        have hr := hid (hh.out rfl)
        go_wp2_with (go_at_call 50; refine HC.out.mono ?_; rintro e wu ⟨rfl, hbu⟩; have HBU := hid (hbel.out.trans (hbu.mono hbel.out.size)); clear hbu)
        go_ret
        exact ⟨by rw [hr.out]; rfl, HBU.out⟩
      | false =>
        have hr := hid (HNX.out rfl)
        go_wp2_with (go_at_call 50; refine HC.out.mono ?_; rintro e wu ⟨rfl, hbu⟩; have HBU := hid (hbel.out.trans (hbu.mono hbel.out.size)); clear hbu)
        go_roundw
        case rel => exact ⟨k + 1, by omega, by go_num, HBU.out, hr.out⟩
        case measure => simp [intOf]; omega
    · obtain rfl : k = n := by omega
      have hr := hid (HN.out hall.out)
      go_wp2_with (fail)
      go_ret
      exact ⟨by rw [hr.out]; rfl, hbel.out⟩
set_option maxHeartbeats 2000000 in
theorem csAccAFirst (p : Rg → Bool) (B1 : Nat) (v : Value) (l : List Rg) (w : World) (h : Sg w v l) (hd : RuleAccA p B1 w) :
    Calls Try.prog 48 #[v, .func (.func 50) #[] #[.pointer (some ⟨B1, 0, none⟩)]] w fun e w' => e = .returned (.tuple #[.agg #[.int .i64 (fndS p l).1.f, .int .i64 (fndS p l).1.t, .int .i64 (fndS p l).1.v], .bool (fndS p l).2]) ∧ Below w.heap.size w w' := by
  have hb0 : Below w.heap.size w (w.alloc (.cells #[.int .i64 0, .int .i64 0, .int .i64 0] 73)) := by (repeat (first | exact Below.refl _ _ | exact below_drewN _ | refine Below.drew ?_ | refine Below.alloc ?_ (by simp) _ | refine Below.setCell ?_ (by simp) _ | refine below_drewN' ?_ _))
  have HB0 := hid hb0
  have HX := hid (Box.made w 73 [.int .i64 0, .int .i64 0, .int .i64 0])
  have HI := hid (csAccAIdx p B1 v l _ (h.below hb0) (fun wr hwr a b c => hd wr (hb0.trans (hwr.mono hb0.size)) a b c))
  have HS := hid (h.below hb0)
  have ml := h.len
  clear hd hb0
  rcases first_or (p := p) l with ⟨k, hk, ha, hp⟩ | hn
  · rw [ixS_hit hk ha hp] at HI
    rw [fndS_hit (p := p) hk ha hp]
    clear ha hp
    obtain ⟨a1, cap1, rfl, q1, -, h1⟩ := h
    rcases h1 with hc | ⟨b1, o1, rfl, hb1, c1⟩
    · omega
    obtain ⟨d1, d2, d3⟩ := c1 k hk
    have D1 := hid d1
    have D2 := hid d2
    have D3 := hid d3
    have hb1' := hb1 (by omega)
    have hneg : decide ((k : Int) < 0) = false := by simp
    generalize l.getD k noRg = r at D1 D2 D3 ⊢
    obtain ⟨rf, rt, rv⟩ := r
    simp only at D1 D2 D3 ⊢
    generalize l.length = n at *
    clear d1 d2 d3 c1 HS hb1
    go_enter Try.func48, Try.ntmps48
    go_wp2_with (go_at_call 60; refine HI.out.mono ?_; rintro e w1 ⟨rfl, hb1⟩; have HB1 := hid (HB0.out.trans (hb1.mono HB0.out.size)); have HX1 := hid (HX.out.below hb1 HX.out.lt); have g1 := (HB1.out.cell (p := ⟨b1, o1 + k * 3, none⟩) hb1').trans D1.out; have g2 := (HB1.out.cell (p := ⟨b1, o1 + k * 3 + 1, none⟩) hb1').trans D2.out; have g3 := (HB1.out.cell (p := ⟨b1, o1 + k * 3 + 2, none⟩) hb1').trans D3.out; have z0 := HX1.out.ice 0; have z1 := HX1.out.ice 1; have z2 := HX1.out.ice 2; have y0 := HX1.out.cell 0; have y1 := HX1.out.cell 1; have y2 := HX1.out.cell 2; simp only [List.getElem?_cons_zero, List.getElem?_cons_succ] at y0 y1 y2; clear hb1)
    refine bodyPost_ret (results_two rfl rfl (loadC3 (HX1.out.three _ _ _))) rfl ⟨rfl, below_three HB1.out (Nat.le_refl _)⟩
  · rw [ixS_none hn] at HI
    rw [fndS_none (p := p) hn]
    clear hn HS
    obtain ⟨a1, cap1, rfl, q1, -, -⟩ := h
    generalize l.length = n at *
    go_enter Try.func48, Try.ntmps48
    go_wp2_with (go_at_call 60; refine HI.out.mono ?_; rintro e w1 ⟨rfl, hb1⟩; have HB1 := hid (HB0.out.trans (hb1.mono HB0.out.size)); have HX1 := hid ((HX.out.below hb1 HX.out.lt).alloc (.cells #[.int .i64 0, .int .i64 0, .int .i64 0] 73)); have z0 := HX1.out.ice 0; have z1 := HX1.out.ice 1; have z2 := HX1.out.ice 2; have y0 := HX1.out.cell 0; have y1 := HX1.out.cell 1; have y2 := HX1.out.cell 2; simp only [List.getElem?_cons_zero, List.getElem?_cons_succ] at y0 y1 y2; clear hb1)
    refine bodyPost_ret (results_two rfl rfl (loadC3 (HX1.out.three _ _ _))) rfl ⟨rfl, below_three (HB1.out.alloc HB1.out.size _) (Nat.le_refl _)⟩
def RuleOnL (p : Rg → Bool) (B1 : Nat) (w : World) : Prop := ∀ wr, Below w.heap.size w wr → ∀ a b c : Int, Calls Try.prog 63 #[.agg #[.int .i64 a, .int .i64 b, .int .i64 c], .pointer (some ⟨B1, 0, none⟩)] wr fun e w' => e = .returned (.bool (p ⟨a, b, c⟩)) ∧ Below wr.heap.size wr w'
set_option maxHeartbeats 2000000 in
theorem csOnLIdx (p : Rg → Bool) (B1 : Nat) (v : Value) (l : List Rg) (w : World) (h : Sg w v l) (hd : RuleOnL p B1 w) :
    Calls Try.prog 60 #[v, .func (.func 63) #[] #[.pointer (some ⟨B1, 0, none⟩)]] w fun e w' => e = .returned (.int .i64 (ixS p l)) ∧ Below w.heap.size w w' := by
  have ml := h.len
  obtain ⟨a1, cap1, rfl, q1, -, h1⟩ := h
  obtain ⟨n, hn⟩ : ∃ n, n = l.length := ⟨_, rfl⟩
  obtain ⟨R, hR⟩ : ∃ R, R = ixS p l := ⟨_, rfl⟩
  have hH : ∀ k, k < n → (∀ i, i < k → p (l.getD i noRg) = false) → p (l.getD k noRg) = true → R = (k : Int) := fun k hk ha hh => hR.trans (ixS_hit (by omega) ha hh)
  have hN : (∀ i, i < n → p (l.getD i noRg) = false) → R = -1 := fun ha => hR.trans (ixS_none (by rw [← hn]; exact ha))
  rw [← hR]
  have HH := hid hH
  have HN := hid hN
  have H1 := hid h1
  have HD := hid hd
  rw [← hn] at ml q1 H1 ⊢
  clear hH hN h1 hn hR hd
  go_enter Try.func60, Try.ntmps60
  go_wp2_with (fail)
  go_loopw [8] (fun iv wr => ∃ k : Nat, k ≤ n ∧ iv = .int .i64 k ∧ Hid (Below w.heap.size w wr) ∧ Hid (∀ i, i < k → p (l.getD i noRg) = false)) (fun iv _ => n - (intOf iv).toNat)
  case atStart => exact ⟨0, by omega, rfl, Below.refl _ _, fun i hi => absurd hi (by omega)⟩
  case round =>
    obtain ⟨k, hk, rfl, hbel, hall⟩ := hrel
    by_cases hlt : k < n
    · rcases H1.out with hc | ⟨b1, o1, rfl, hb1, c1⟩
      · omega
      have hb1' := hb1 (by omega)
      obtain ⟨d1, d2, d3⟩ := c1 k hlt
      have d1 := (hbel.out.cell (p := ⟨b1, o1 + k * 3, none⟩) hb1').trans d1
      have d2 := (hbel.out.cell (p := ⟨b1, o1 + k * 3 + 1, none⟩) hb1').trans d2
      have d3 := (hbel.out.cell (p := ⟨b1, o1 + k * 3 + 2, none⟩) hb1').trans d3
      have hh := hid (HH.out k hlt hall.out)
      have HNX := hid (show p (l.getD k noRg) = false → ∀ i, i < k + 1 → p (l.getD i noRg) = false from fun he i hi => by
        rcases Nat.lt_or_ge i k with h | h
        · exact hall.out i h
        · obtain rfl : i = k := by omega
          exact he)
      clear c1
      generalize l.getD k noRg = r at d1 d2 d3 hh HNX
      obtain ⟨rf, rt, rv⟩ := r
      simp only at d1 d2 d3 hh HNX
      obtain ⟨b, hb⟩ : ∃ b, b = p ⟨rf, rt, rv⟩ := ⟨_, rfl⟩
      rw [← hb] at hh HNX
      have HC := hid (HD.out wr hbel.out rf rt rv)
      rw [← hb] at HC
      clear hb
      cases b with
      | true =>
        have hr := hid (hh.out rfl)
        go_wp2_with (go_at_call 63; refine HC.out.mono ?_; rintro e wu ⟨rfl, hbu⟩; have HBU := hid (hbel.out.trans (hbu.mono hbel.out.size)); clear hbu)
        go_ret
        exact ⟨by rw [hr.out]; rfl, HBU.out⟩
      | false =>
        have hr := hid (HNX.out rfl)
        go_wp2_with (go_at_call 63; refine HC.out.mono ?_; rintro e wu ⟨rfl, hbu⟩; have HBU := hid (hbel.out.trans (hbu.mono hbel.out.size)); clear hbu)
        go_roundw
        case rel => exact ⟨k + 1, by omega, by go_num, HBU.out, hr.out⟩
        case measure => simp [intOf]; omega
    · obtain rfl : k = n := by omega
      have hr := hid (HN.out hall.out)
      go_wp2_with (fail)
      go_ret
      exact ⟨by rw [hr.out]; rfl, hbel.out⟩
set_option maxHeartbeats 2000000 in
theorem csOnLFirst (p : Rg → Bool) (B1 : Nat) (v : Value) (l : List Rg) (w : World) (h : Sg w v l) (hd : RuleOnL p B1 w) :
    Calls Try.prog 48 #[v, .func (.func 63) #[] #[.pointer (some ⟨B1, 0, none⟩)]] w fun e w' => e = .returned (.tuple #[.agg #[.int .i64 (fndS p l).1.f, .int .i64 (fndS p l).1.t, .int .i64 (fndS p l).1.v], .bool (fndS p l).2]) ∧ Below w.heap.size w w' := by
  have hb0 : Below w.heap.size w (w.alloc (.cells #[.int .i64 0, .int .i64 0, .int .i64 0] 73)) := by (repeat (first | exact Below.refl _ _ | exact below_drewN _ | refine Below.drew ?_ | refine Below.alloc ?_ (by simp) _ | refine Below.setCell ?_ (by simp) _ | refine below_drewN' ?_ _))
  have HB0 := hid hb0
  have HX := hid (Box.made w 73 [.int .i64 0, .int .i64 0, .int .i64 0])
  have HI := hid (csOnLIdx p B1 v l _ (h.below hb0) (fun wr hwr a b c => hd wr (hb0.trans (hwr.mono hb0.size)) a b c))
  have HS := hid (h.below hb0)
  have ml := h.len
  clear hd hb0
  rcases first_or (p := p) l with ⟨k, hk, ha, hp⟩ | hn
  · rw [ixS_hit hk ha hp] at HI
    rw [fndS_hit (p := p) hk ha hp]
    clear ha hp
    obtain ⟨a1, cap1, rfl, q1, -, h1⟩ := h
    rcases h1 with hc | ⟨b1, o1, rfl, hb1, c1⟩
    · omega
    obtain ⟨d1, d2, d3⟩ := c1 k hk
    have D1 := hid d1
    have D2 := hid d2
    have D3 := hid d3
    have hb1' := hb1 (by omega)
    have hneg : decide ((k : Int) < 0) = false := by simp
    generalize l.getD k noRg = r at D1 D2 D3 ⊢
    obtain ⟨rf, rt, rv⟩ := r
    simp only at D1 D2 D3 ⊢
    generalize l.length = n at *
    clear d1 d2 d3 c1 HS hb1
    go_enter Try.func48, Try.ntmps48
    go_wp2_with (go_at_call 60; refine HI.out.mono ?_; rintro e w1 ⟨rfl, hb1⟩; have HB1 := hid (HB0.out.trans (hb1.mono HB0.out.size)); have HX1 := hid (HX.out.below hb1 HX.out.lt); have g1 := (HB1.out.cell (p := ⟨b1, o1 + k * 3, none⟩) hb1').trans D1.out; have g2 := (HB1.out.cell (p := ⟨b1, o1 + k * 3 + 1, none⟩) hb1').trans D2.out; have g3 := (HB1.out.cell (p := ⟨b1, o1 + k * 3 + 2, none⟩) hb1').trans D3.out; have z0 := HX1.out.ice 0; have z1 := HX1.out.ice 1; have z2 := HX1.out.ice 2; have y0 := HX1.out.cell 0; have y1 := HX1.out.cell 1; have y2 := HX1.out.cell 2; simp only [List.getElem?_cons_zero, List.getElem?_cons_succ] at y0 y1 y2; clear hb1)
    refine bodyPost_ret (results_two rfl rfl (loadC3 (HX1.out.three _ _ _))) rfl ⟨rfl, below_three HB1.out (Nat.le_refl _)⟩
  · rw [ixS_none hn] at HI
    rw [fndS_none (p := p) hn]
    clear hn HS
    obtain ⟨a1, cap1, rfl, q1, -, -⟩ := h
    generalize l.length = n at *
    go_enter Try.func48, Try.ntmps48
    go_wp2_with (go_at_call 60; refine HI.out.mono ?_; rintro e w1 ⟨rfl, hb1⟩; have HB1 := hid (HB0.out.trans (hb1.mono HB0.out.size)); have HX1 := hid ((HX.out.below hb1 HX.out.lt).alloc (.cells #[.int .i64 0, .int .i64 0, .int .i64 0] 73)); have z0 := HX1.out.ice 0; have z1 := HX1.out.ice 1; have z2 := HX1.out.ice 2; have y0 := HX1.out.cell 0; have y1 := HX1.out.cell 1; have y2 := HX1.out.cell 2; simp only [List.getElem?_cons_zero, List.getElem?_cons_succ] at y0 y1 y2; clear hb1)
    refine bodyPost_ret (results_two rfl rfl (loadC3 (HX1.out.three _ _ _))) rfl ⟨rfl, below_three (HB1.out.alloc HB1.out.size _) (Nat.le_refl _)⟩
end Go.Proofs.Ytildhebaikeknaa

/-! Cs16d -/
namespace Go.Proofs.Ytildhebaikeknaa
open Go.RowKit

/-- where the first one of numbers stands; -1: there is none -/
def ixI (p : Int → Bool) : List Int → Int
  | [] => -1
  | r :: l => if p r then 0 else if ixI p l < 0 then -1 else ixI p l + 1
theorem ixI_drop {p : Int → Bool} : ∀ {l : List Int} {k : Nat}, k ≤ l.length → (∀ i, i < k → p (l.getD i 0) = false) → ixI p l = if ixI p (l.drop k) < 0 then -1 else ixI p (l.drop k) + k
  | [], 0, _, _ => by simp [ixI]
  | r :: l, 0, _, _ => by
    simp only [List.drop_zero]
    unfold ixI
    by_cases h : p r = true
    · rw [if_pos h]; simp
    · rw [if_neg h]
      by_cases h2 : ixI p l < 0
      · rw [if_pos h2]; simp
      · rw [if_neg h2, if_neg (by omega)]; omega
  | [], k + 1, h, _ => by simp at h
  | r :: l, k + 1, h, ha => by
    have h0 := ha 0 (by omega)
    simp only [List.getD_cons_zero] at h0
    have ih := ixI_drop (p := p) (l := l) (k := k) (by simpa using h) fun i hi => by simpa using ha (i + 1) (by omega)
    rw [ixI, h0, List.drop_succ_cons, ih]
    simp only [Bool.false_eq_true, if_false]
    by_cases h2 : ixI p (l.drop k) < 0
    · rw [if_pos h2]; simp; omega
    · rw [if_neg h2, if_neg (by omega)]; omega
theorem ixI_hit {p : Int → Bool} {l : List Int} {k : Nat} (h : k < l.length) (ha : ∀ i, i < k → p (l.getD i 0) = false) (hk : p (l.getD k 0) = true) : ixI p l = k := by
  rw [ixI_drop (by omega) ha, List.drop_eq_getElem_cons h, ixI]
  have e : l.getD k 0 = l[k] := by rw [List.getD_eq_getElem?_getD, List.getElem?_eq_getElem h]; rfl
  rw [e] at hk
  rw [if_pos hk]
  simp
theorem ixI_none {p : Int → Bool} {l : List Int} (ha : ∀ i, i < l.length → p (l.getD i 0) = false) : ixI p l = -1 := by
  rw [ixI_drop (Nat.le_refl _) ha, List.drop_length]
  rfl
theorem firstI_or {p : Int → Bool} : ∀ (l : List Int), (∃ k, k < l.length ∧ (∀ i, i < k → p (l.getD i 0) = false) ∧ p (l.getD k 0) = true) ∨ ∀ i, i < l.length → p (l.getD i 0) = false
  | [] => .inr fun i hi => by simp at hi
  | r :: l => by
    by_cases h : p r = true
    · exact .inl ⟨0, by simp, fun i hi => by omega, by simpa using h⟩
    · rcases firstI_or (p := p) l with ⟨k, h1, h2, h3⟩ | h2
      · refine .inl ⟨k + 1, by simpa using h1, fun i hi => ?_, by simpa using h3⟩
        cases i with
        | zero => simpa using h
        | succ i => simpa using h2 i (by omega)
      · refine .inr fun i hi => ?_
        cases i with
        | zero => simpa using h
        | succ i => simpa using h2 i (by simpa using hi)
end Go.Proofs.Ytildhebaikeknaa

/-! Cs16e -/
namespace Go.Proofs.Ytildhebaikeknaa
open Go.RowKit

set_option maxHeartbeats 2000000 in
theorem csFind (s p : Int) (w : World) : Calls Try.prog 38 #[.int .i64 s, .int .i64 p] w fun e w' => e = .returned (.tuple #[.int .i64 (findS16 s p).1, .bool (findS16 s p).2]) ∧ Below w.heap.size w w' := by
  unfold findS16
  have hb0 : Below w.heap.size w ((w.alloc (.cells #[.int .i64 s] 3)).alloc (.cells #[.int .i64 p] 3)) := by (repeat (first | exact Below.refl _ _ | exact below_drewN _ | refine Below.drew ?_ | refine Below.alloc ?_ (by simp) _ | refine Below.setCell ?_ (by simp) _ | refine below_drewN' ?_ _))
  have HB0 := hid hb0
  have x1 := ((Box.made w 3 [.int .i64 s]).alloc (.cells #[.int .i64 p] 3)).cell 0
  have x2 := (box_last w (.cells #[.int .i64 s] 3) 3 [.int .i64 p]).cell 0
  simp only [List.getElem?_cons_zero] at x1 x2
  have X1 := hid x1
  have X2 := hid x2
  clear hb0 x1 x2
  have HF := hid (fun (w1 : World) (v : Value) (h : Sg w1 v tabCodes) (hb : Below ((w.alloc (.cells #[.int .i64 s] 3)).alloc (.cells #[.int .i64 p] 3)).heap.size ((w.alloc (.cells #[.int .i64 s] 3)).alloc (.cells #[.int .i64 p] 3)) w1) =>
    csFindFirst (fun r => r.f == s && r.v == p) w.heap.size (w.heap.size + 1) v tabCodes w1 h (fun wr hwr a b c =>
      csFindRule _ _ s p a b c wr (((hb.trans (hwr.mono hb.size)).cell (World.block_lt_of_cell? _ _ X1.out)).trans X1.out) (((hb.trans (hwr.mono hb.size)).cell (World.block_lt_of_cell? _ _ X2.out)).trans X2.out)))
  generalize fndS (fun r => r.f == s && r.v == p) tabCodes = R at HF ⊢
  obtain ⟨⟨rf, rt, rv⟩, ok⟩ := R
  simp only at HF ⊢
  have HA := hid (fun w => apiCodes w)
  generalize tabCodes = T at HF HA
  go_enter Try.func38, Try.ntmps38
  go_wp2_with (first
    | (go_at_call 44; refine (HF.out w1 _ HO1.out.sg HB1.out).mono ?_; rintro e w2 ⟨rfl, hb2⟩; have HB2 := hid ((HB0.out.trans (HB1.out.mono HB0.out.size)).trans (hb2.mono (HB0.out.trans (HB1.out.mono HB0.out.size)).size)); clear hb2)
    | (go_at_call 45; refine (HA.out _).mono ?_; rintro e w1 ⟨v1, rfl, ho1, hb1⟩; obtain ⟨a1, c1, hv1⟩ := ho1.form; obtain ⟨n1, hn1⟩ : ∃ n, n = T.length := ⟨_, rfl⟩; rw [← hn1] at hv1; subst hv1; have HO1 := hid ho1; have HB1 := hid hb1; clear ho1 hb1 hn1))
  go_ret2
  exact ⟨rfl, (HB2.out.alloc HB2.out.size _)⟩
theorem csIsLetter (c : Int) (w : World) : Calls Try.prog 62 #[.int .i64 c] w fun e w' => e = .returned (.bool (letB c)) ∧ w = w' := by
  by_cases h1 : 65 ≤ c
  · by_cases h2 : c ≤ 90
    · have hr := hid (show letB c = true from decide_eq_true (.inl ⟨h1, h2⟩))
      go_enter Try.func62, Try.ntmps62
      go_wp2_with (fail)
      go_ret
      exact ⟨by rw [hr.out]; rfl, rfl⟩
    · by_cases h3 : 97 ≤ c
      · obtain ⟨q, hq⟩ : ∃ q, q = decide (c ≤ 122) := ⟨_, rfl⟩
        have hr := hid (show letB c = q from by rw [hq]; unfold letB; exact decide_eq_decide.2 (by omega))
        replace hq := hq.symm
        go_enter Try.func62, Try.ntmps62
        go_wp2_with (fail)
        go_ret
        exact ⟨by rw [hr.out]; first | rfl | (rw [← hq]; rfl) | simp_all, rfl⟩
      · have hr := hid (show letB c = false from decide_eq_false (by omega))
        go_enter Try.func62, Try.ntmps62
        go_wp2_with (fail)
        go_ret
        exact ⟨by rw [hr.out]; rfl, rfl⟩
  · have h3 : ¬ 97 ≤ c := by omega
    have hr := hid (show letB c = false from decide_eq_false (by omega))
    go_enter Try.func62, Try.ntmps62
    go_wp2_with (fail)
    go_ret
    exact ⟨by rw [hr.out]; rfl, rfl⟩
end Go.Proofs.Ytildhebaikeknaa
