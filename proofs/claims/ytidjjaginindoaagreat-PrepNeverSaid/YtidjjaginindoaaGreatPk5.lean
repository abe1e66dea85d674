/- Several texts in one: Ucd5, Ucd6, Ucd7. -/
import Derived.Test.YtidjjaginindoaaGreatPk2
import Derived.Test.YtidjjaginindoaaGreatPk3
/-! Ucd5 -/
namespace Go.Proofs.YtidjjaginindoaaGreat
open Go.RowKit

/-- the first place of a number, or -1 -/
def idxL (c : Int) : List Int → Int → Int
  | [], _ => -1
  | x :: l, k => if x == c then k else idxL c l (k + 1)
def inL (c : Int) (l : List Int) : Bool := decide (0 ≤ idxL c l 0)
theorem idxL_drop {c : Int} : ∀ {l : List Int} {k : Nat} {o : Int}, k ≤ l.length → (∀ i, i < k → (l.getD i 0 == c) = false) → idxL c l o = idxL c (l.drop k) (o + (k : Int))
  | _, 0, o, _, _ => by simp
  | [], k + 1, _, h, _ => by simp at h
  | r :: l, k + 1, o, h, ha => by
    have h0 := ha 0 (by omega)
    simp only [List.getD_cons_zero] at h0
    rw [idxL, h0, List.drop_succ_cons, show o + ((k + 1 : Nat) : Int) = o + 1 + (k : Int) by omega]
    exact idxL_drop (by simpa using h) fun i hi => by simpa using ha (i + 1) (by omega)
theorem idxL_hit {c : Int} {l : List Int} {k : Nat} (h : k < l.length) (ha : ∀ i, i < k → (l.getD i 0 == c) = false) (hk : (l.getD k 0 == c) = true) : idxL c l 0 = (k : Int) := by
  rw [idxL_drop (by omega) ha, List.drop_eq_getElem_cons h, idxL]
  have e : l.getD k 0 = l[k] := by rw [List.getD_eq_getElem?_getD, List.getElem?_eq_getElem h]; rfl
  rw [e] at hk
  rw [hk]
  simp
theorem idxL_none {c : Int} {l : List Int} (ha : ∀ i, i < l.length → (l.getD i 0 == c) = false) : idxL c l 0 = -1 := by
  rw [idxL_drop (Nat.le_refl _) ha, List.drop_length]
  rfl

set_option maxHeartbeats 1000000 in
theorem slicesIndex (v : Value) (l : List Int) (c : Int) (w : World) (h : Sl .i64 w v l) :
    Calls Tryz.prog 150 #[v, .int .i64 c] w fun e w' => e = .returned (.int .i64 (idxL c l 0)) ∧ w = w' := by
  have ml := h.len
  obtain ⟨a1, cap1, rfl, q1, -, h1⟩ := h
  obtain ⟨n, hn⟩ : ∃ n, n = l.length := ⟨_, rfl⟩
  obtain ⟨R, hR⟩ : ∃ R, R = idxL c l 0 := ⟨_, rfl⟩
  have hH : ∀ k, k < n → (∀ i, i < k → (l.getD i 0 == c) = false) → (l.getD k 0 == c) = true → R = (k : Int) := fun k hk ha hh => hR.trans (idxL_hit (by omega) ha hh)
  have hN : (∀ i, i < n → (l.getD i 0 == c) = false) → R = -1 := fun ha => hR.trans (idxL_none (by rw [← hn]; exact ha))
  rw [← hR]
  have HH := hid hH
  have HN := hid hN
  have H1 := hid h1
  rw [← hn] at ml q1 H1 ⊢
  clear hH hN h1 hn hR
  go_enter Tryz.func150, Tryz.ntmps150
  go_wp2_with (fail)
  go_loopw [8] (fun iv wr => ∃ k : Nat, k ≤ n ∧ iv = .int .i64 k ∧ wr = w ∧ Hid (∀ i, i < k → (l.getD i 0 == c) = false)) (fun iv _ => n - (intOf iv).toNat)
  case atStart => exact ⟨0, by omega, rfl, rfl, fun i hi => absurd hi (by omega)⟩
  case round =>
    obtain ⟨k, hk, rfl, rfl, hall⟩ := hrel
    by_cases hlt : k < n
    · rcases H1.out with hc | ⟨b1, o1, rfl, hb1, c1⟩
      · omega
      have d1 := c1 k hlt
      have hh := hid (HH.out k hlt hall.out)
      have HNX := hid (show (l.getD k 0 == c) = false → ∀ i, i < k + 1 → (l.getD i 0 == c) = false from fun he i hi => by
        rcases Nat.lt_or_ge i k with h | h
        · exact hall.out i h
        · obtain rfl : i = k := by omega
          exact he)
      clear c1
      generalize l.getD k 0 = y at d1 hh HNX
      obtain ⟨b, hb⟩ : ∃ b, b = (c == y) := ⟨_, rfl⟩
      rw [BEq.comm (a := y) (b := c), ← hb] at hh HNX
      replace hb := hb.symm
      cases b with
      | true =>
        have hr := hid (hh.out rfl)
        go_wp2_with (fail)
        go_ret
        exact ⟨by rw [hr.out]; rfl, rfl⟩
      | false =>
        have hr := hid (HNX.out rfl)
        go_wp2_with (fail)
        go_roundw
        case rel => exact ⟨k + 1, by omega, by go_num, by first | trivial | rfl, hr.out⟩
        case measure => simp [intOf]; omega
    · obtain rfl : k = n := by omega
      have hr := hid (HN.out hall.out)
      go_wp2_with (fail)
      go_ret
      exact ⟨by rw [hr.out]; rfl, rfl⟩

theorem slicesContains (v : Value) (l : List Int) (c : Int) (w : World) (h : Sl .i64 w v l) :
    Calls Tryz.prog 148 #[v, .int .i64 c] w fun e w' => e = .returned (.bool (inL c l)) ∧ w = w' := by
  have H := hid h
  obtain ⟨y, hy⟩ : ∃ y, y = idxL c l 0 := ⟨_, rfl⟩
  obtain ⟨b, hb⟩ : ∃ b, b = decide (0 ≤ y) := ⟨_, rfl⟩
  have HB := hid (show b = inL c l by rw [hb, hy]; rfl)
  have HY := hid hy
  replace hb := hb.symm
  clear h hy
  go_enter Tryz.func148, Tryz.ntmps148
  go_wp2_with (go_at_call 150; refine (slicesIndex v l c _ H.out).mono ?_; rw [← HY.out]; rintro e w1 ⟨rfl, rfl⟩)
  go_ret
  exact ⟨by rw [← HB.out, ← hb]; rfl, rfl⟩
end Go.Proofs.YtidjjaginindoaaGreat

/-! Ucd6 -/
namespace Go.Proofs.YtidjjaginindoaaGreat
open Go.RowKit

def delS (excl : List Int) (cls : List Rg) (r : Rg) : Bool := r.v == 0 || inL r.f excl || lookS cls r.f != 0 || lookS cls r.t != 0
set_option maxHeartbeats 2000000 in
theorem ucdDel (B1 B2 : Nat) (ve vc : Value) (excl : List Int) (cls : List Rg) (a b c : Int) (w : World) (h1 : w.cell? ⟨B1, 0, none⟩ = some ve) (he : Sl .i64 w ve excl) (h2 : w.cell? ⟨B2, 0, none⟩ = some vc) (hc : Sg w vc cls) :
    Calls Tryz.prog 147 #[.agg #[.int .i64 a, .int .i64 b, .int .i64 c], .pointer (some ⟨B1, 0, none⟩), .pointer (some ⟨B2, 0, none⟩)] w fun e w' => e = .returned (.bool (delS excl cls ⟨a, b, c⟩)) ∧ Below w.heap.size w w' := by
  have hb0 : Below w.heap.size w (w.alloc (.cells #[.int .i64 a, .int .i64 b, .int .i64 c] 66)) := by (repeat (first | exact Below.refl _ _ | exact below_drewN _ | refine Below.drew ?_ | refine Below.alloc ?_ (by simp) _ | refine Below.setCell ?_ (by simp) _ | refine below_drewN' ?_ _))
  have x1 := (hb0.cell (p := ⟨B1, 0, none⟩) (World.block_lt_of_cell? w _ h1)).trans h1
  have x2 := (hb0.cell (p := ⟨B2, 0, none⟩) (World.block_lt_of_cell? w _ h2)).trans h2
  have HE := hid (he.below hb0)
  have HC := hid (hc.below hb0)
  have HB0 := hid hb0
  have HX := hid (Box.made w 66 [.int .i64 a, .int .i64 b, .int .i64 c])
  clear h1 h2 he hc hb0
  obtain ⟨b2, hb2⟩ : ∃ b2, b2 = inL a excl := ⟨_, rfl⟩
  obtain ⟨n3, hn3⟩ : ∃ n3, n3 = lookS cls a := ⟨_, rfl⟩
  obtain ⟨n4, hn4⟩ : ∃ n4, n4 = lookS cls b := ⟨_, rfl⟩
  have HR := hid (show (c == 0 || b2 || n3 != 0 || n4 != 0) = delS excl cls ⟨a, b, c⟩ by rw [hb2, hn3, hn4]; rfl)
  have HI := hid hb2
  have HN3 := hid hn3
  have HN4 := hid hn4
  clear hb2 hn3 hn4
  obtain ⟨b1, hb1⟩ : ∃ b1, b1 = (c == 0) := ⟨_, rfl⟩
  obtain ⟨b3, hb3⟩ : ∃ b3, b3 = (n3 != 0) := ⟨_, rfl⟩
  obtain ⟨b4, hb4⟩ : ∃ b4, b4 = (n4 != 0) := ⟨_, rfl⟩
  rw [← hb1, ← hb3, ← hb4] at HR
  replace hb1 := hb1.symm
  replace hb3 := hb3.symm
  replace hb4 := hb4.symm
  cases b1 with
  | true =>
    go_enter Tryz.func147, Tryz.ntmps147
    go_wp2_with (fail)
    go_ret
    exact ⟨by rw [← HR.out]; rfl, HB0.out⟩
  | false =>
    cases b2 with
    | true =>
      go_enter Tryz.func147, Tryz.ntmps147
      go_wp2_with (first
        | (go_at_call 148; refine (slicesContains ve excl a _ HE.out).mono ?_; rw [← HI.out]; rintro e w1 ⟨rfl, rfl⟩))
      go_ret
      exact ⟨by rw [← HR.out]; rfl, HB0.out⟩
    | false =>
      cases b3 with
      | true =>
        go_enter Tryz.func147, Tryz.ntmps147
        go_wp2_with (first
          | (go_at_call 148; refine (slicesContains ve excl a _ HE.out).mono ?_; rw [← HI.out]; rintro e w1 ⟨rfl, rfl⟩)
          | (go_at_call 109; refine (rngFlat vc cls a _ HC.out).mono ?_; rw [← HN3.out]; rintro e w2 ⟨rfl, hb2'⟩; have HB2 := hid hb2'; clear hb2'; have HX2 := hid (HX.out.below HB2.out HX.out.lt); have x3 := (HB2.out.cell (p := ⟨B2, 0, none⟩) (World.block_lt_of_cell? _ _ x2)).trans x2; have y0 := HX2.out.cell 0; have y1 := HX2.out.cell 1; have y2 := HX2.out.cell 2; simp only [List.getElem?_cons_zero, List.getElem?_cons_succ] at y0 y1 y2))
        go_ret
        exact ⟨by rw [← HR.out]; rfl, HB0.out.trans (HB2.out.mono HB0.out.size)⟩
      | false =>
        cases b4 with
        | true =>
          go_enter Tryz.func147, Tryz.ntmps147
          go_wp2_with (first
            | (go_at_call 148; refine (slicesContains ve excl a _ HE.out).mono ?_; rw [← HI.out]; rintro e w1 ⟨rfl, rfl⟩)
            | (have _u := HB2; clear _u; go_at_call 109; refine (rngFlat vc cls b w2 (HC.out.below HB2.out)).mono ?_; rw [← HN4.out]; rintro e w3 ⟨rfl, hb3'⟩; have HB3 := hid (HB2.out.trans (hb3'.mono HB2.out.size)); clear hb3')
            | (go_at_call 109; refine (rngFlat vc cls a _ HC.out).mono ?_; rw [← HN3.out]; rintro e w2 ⟨rfl, hb2'⟩; have HB2 := hid hb2'; clear hb2'; have HX2 := hid (HX.out.below HB2.out HX.out.lt); have x3 := (HB2.out.cell (p := ⟨B2, 0, none⟩) (World.block_lt_of_cell? _ _ x2)).trans x2; have y0 := HX2.out.cell 0; have y1 := HX2.out.cell 1; have y2 := HX2.out.cell 2; simp only [List.getElem?_cons_zero, List.getElem?_cons_succ] at y0 y1 y2))
          go_ret
          exact ⟨by rw [← HR.out]; rfl, HB0.out.trans (HB3.out.mono HB0.out.size)⟩
        | false =>
          go_enter Tryz.func147, Tryz.ntmps147
          go_wp2_with (first
            | (go_at_call 148; refine (slicesContains ve excl a _ HE.out).mono ?_; rw [← HI.out]; rintro e w1 ⟨rfl, rfl⟩)
            | (have _u := HB2; clear _u; go_at_call 109; refine (rngFlat vc cls b w2 (HC.out.below HB2.out)).mono ?_; rw [← HN4.out]; rintro e w3 ⟨rfl, hb3'⟩; have HB3 := hid (HB2.out.trans (hb3'.mono HB2.out.size)); clear hb3')
            | (go_at_call 109; refine (rngFlat vc cls a _ HC.out).mono ?_; rw [← HN3.out]; rintro e w2 ⟨rfl, hb2'⟩; have HB2 := hid hb2'; clear hb2'; have HX2 := hid (HX.out.below HB2.out HX.out.lt); have x3 := (HB2.out.cell (p := ⟨B2, 0, none⟩) (World.block_lt_of_cell? _ _ x2)).trans x2; have y0 := HX2.out.cell 0; have y1 := HX2.out.cell 1; have y2 := HX2.out.cell 2; simp only [List.getElem?_cons_zero, List.getElem?_cons_succ] at y0 y1 y2))
          go_ret
          exact ⟨by rw [← HR.out]; rfl, HB0.out.trans (HB3.out.mono HB0.out.size)⟩
end Go.Proofs.YtidjjaginindoaaGreat

/-! Ucd7 -/
namespace Go.Proofs.YtidjjaginindoaaGreat
open Go.RowKit

/-- the first place that a rule holds at, or -1 -/
def idxP (p : Rg → Bool) : List Rg → Int → Int
  | [], _ => -1
  | x :: l, k => if p x then k else idxP p l (k + 1)
theorem idxP_drop {p : Rg → Bool} : ∀ {l : List Rg} {k : Nat} {o : Int}, k ≤ l.length → (∀ i, i < k → p (l.getD i noRg) = false) → idxP p l o = idxP p (l.drop k) (o + (k : Int))
  | _, 0, o, _, _ => by simp
  | [], k + 1, _, h, _ => by simp at h
  | r :: l, k + 1, o, h, ha => by
    have h0 := ha 0 (by omega)
    simp only [List.getD_cons_zero] at h0
    rw [idxP, h0, List.drop_succ_cons, show o + ((k + 1 : Nat) : Int) = o + 1 + (k : Int) by omega]
    exact idxP_drop (by simpa using h) fun i hi => by simpa using ha (i + 1) (by omega)
theorem idxP_hit {p : Rg → Bool} {l : List Rg} {k : Nat} (h : k < l.length) (ha : ∀ i, i < k → p (l.getD i noRg) = false) (hk : p (l.getD k noRg) = true) : idxP p l 0 = (k : Int) := by
  rw [idxP_drop (by omega) ha, List.drop_eq_getElem_cons h, idxP]
  have e : l.getD k noRg = l[k] := by rw [List.getD_eq_getElem?_getD, List.getElem?_eq_getElem h]; rfl
  rw [e] at hk
  rw [hk]
  simp
theorem idxP_none {p : Rg → Bool} {l : List Rg} (ha : ∀ i, i < l.length → p (l.getD i noRg) = false) : idxP p l 0 = -1 := by
  rw [idxP_drop (Nat.le_refl _) ha, List.drop_length]
  rfl

/-- the rule, while block g is written -/
def DelAt (p : Rg → Bool) (B1 B2 g : Nat) (w : World) : Prop := ∀ wr, w.grownBy wr (some g) → ∀ a b c : Int,
  Calls Tryz.prog 147 #[.agg #[.int .i64 a, .int .i64 b, .int .i64 c], .pointer (some ⟨B1, 0, none⟩), .pointer (some ⟨B2, 0, none⟩)] wr fun e w' => e = .returned (.bool (p ⟨a, b, c⟩)) ∧ Below wr.heap.size wr w'
theorem grown_trans {w w1 w2 : World} {r : Option Nat} (h : w.grownBy w1 r) (k : w1.grownBy w2 r) : w.grownBy w2 r :=
  ⟨k.os.trans h.os, k.tape.trans h.tape, k.output.trans h.output, Nat.le_trans h.size k.size, fun i hi hn => (k.block i (Nat.lt_of_lt_of_le hi h.size) hn).trans (h.block i hi hn)⟩
theorem grown_below {w w1 : World} (h : Below w.heap.size w w1) (r : Option Nat) : w.grownBy w1 r := ⟨h.os, h.tape, h.output, h.size, fun i hi _ => h.block i hi⟩
theorem grown_set {w : World} (g j : Nat) (v : Value) : w.grownBy (w.setCell ⟨g, j, none⟩ v) (some g) :=
  ⟨rfl, rfl, rfl, (Below.setCell (Below.refl 0 w) (Nat.zero_le _) v).size, fun i _ hn => Below.heap_setCell _ _ _ _ fun e => hn (by rw [e])⟩

set_option maxHeartbeats 2000000 in
theorem slicesIndexFunc (p : Rg → Bool) (B1 B2 g : Nat) (v : Value) (l : List Rg) (w : World) (h : Sg w v l) (hd : DelAt p B1 B2 g w) :
    Calls Tryz.prog 149 #[v, .func (.func 147) #[] #[.pointer (some ⟨B1, 0, none⟩), .pointer (some ⟨B2, 0, none⟩)]] w fun e w' => e = .returned (.int .i64 (idxP p l 0)) ∧ Below w.heap.size w w' := by
  have ml := h.len
  obtain ⟨a1, cap1, rfl, q1, -, h1⟩ := h
  obtain ⟨n, hn⟩ : ∃ n, n = l.length := ⟨_, rfl⟩
  obtain ⟨R, hR⟩ : ∃ R, R = idxP p l 0 := ⟨_, rfl⟩
  have hH : ∀ k, k < n → (∀ i, i < k → p (l.getD i noRg) = false) → p (l.getD k noRg) = true → R = (k : Int) := fun k hk ha hh => hR.trans (idxP_hit (by omega) ha hh)
  have hN : (∀ i, i < n → p (l.getD i noRg) = false) → R = -1 := fun ha => hR.trans (idxP_none (by rw [← hn]; exact ha))
  rw [← hR]
  have HH := hid hH
  have HN := hid hN
  have H1 := hid h1
  have HD := hid hd
  rw [← hn] at ml q1 H1 ⊢
  clear hH hN h1 hn hR hd
  go_enter Tryz.func149, Tryz.ntmps149
  go_wp2_with (fail)
  go_loopw [8] (fun iv wr => ∃ k : Nat, k ≤ n ∧ iv = .int .i64 k ∧ Hid (Below w.heap.size w wr) ∧ Hid (∀ i, i < k → p (l.getD i noRg) = false)) (fun iv _ => n - (intOf iv).toNat)
  case atStart => exact ⟨0, by omega, rfl, Below.refl _ _, fun i hi => absurd hi (by omega)⟩
  case round =>
    obtain ⟨k, hk, rfl, hbel, hall⟩ := hrel
    by_cases hlt : k < n
    · rcases H1.out with hc | ⟨b1, o1, rfl, hb1, c1⟩
      · omega
      have hb1' := hb1 (by omega)
      obtain ⟨d1, d2, d3⟩ := c1 k hlt
      have d1 := (hbel.out.cell (p := ⟨b1, o1 + k * 3, none⟩) hb1').trans d1
      have d2 := (hbel.out.cell (p := ⟨b1, o1 + k * 3 + 1, none⟩) hb1').trans d2
      have d3 := (hbel.out.cell (p := ⟨b1, o1 + k * 3 + 2, none⟩) hb1').trans d3
      have hh := hid (HH.out k hlt hall.out)
      have HNX := hid (show p (l.getD k noRg) = false → ∀ i, i < k + 1 → p (l.getD i noRg) = false from fun he i hi => by
        rcases Nat.lt_or_ge i k with h | h
        · exact hall.out i h
        · obtain rfl : i = k := by omega
          exact he)
      clear c1
      generalize l.getD k noRg = r at d1 d2 d3 hh HNX
      obtain ⟨rf, rt, rv⟩ := r
      simp only at d1 d2 d3 hh HNX
      obtain ⟨b, hb⟩ : ∃ b, b = p ⟨rf, rt, rv⟩ := ⟨_, rfl⟩
      rw [← hb] at hh HNX
      have HC := hid (HD.out wr (grown_below hbel.out _) rf rt rv)
      rw [← hb] at HC
      clear hb
      cases b with
      | true =>
        have hr := hid (hh.out rfl)
        go_wp2_with (go_at_call 147; refine HC.out.mono ?_; rintro e wu ⟨rfl, hbu⟩; have HBU := hid (hbel.out.trans (hbu.mono hbel.out.size)); clear hbu)
        go_ret
        exact ⟨by rw [hr.out]; rfl, HBU.out⟩
      | false =>
        have hr := hid (HNX.out rfl)
        go_wp2_with (go_at_call 147; refine HC.out.mono ?_; rintro e wu ⟨rfl, hbu⟩; have HBU := hid (hbel.out.trans (hbu.mono hbel.out.size)); clear hbu)
        go_roundw
        case rel => exact ⟨k + 1, by omega, by go_num, HBU.out, hr.out⟩
        case measure => simp [intOf]; omega
    · obtain rfl : k = n := by omega
      have hr := hid (HN.out hall.out)
      go_wp2_with (fail)
      go_ret
      exact ⟨by rw [hr.out]; rfl, hbel.out⟩
end Go.Proofs.YtidjjaginindoaaGreat
