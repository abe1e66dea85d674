/- Several texts in one: Ucd2, Ucd3, Ucd4. -/
import Derived.Test.YtildhebaikeknaaGreatPk3
import Derived.Test.YtildhebaikeknaaGreatPk4
import Derived.Test.YtildhebaikeknaaGreatPk1
import Derived.Test.YtildhebaikeknaaGreatPk5
/-! Ucd2 -/
namespace Go.Proofs.YtildhebaikeknaaGreat
open Go.RowKit

/-- the first of a list that has a property, and whether there is one -/
def fndS (p : Rg → Bool) : List Rg → Rg × Bool
  | [] => (noRg, false)
  | r :: l => if p r then (r, true) else fndS p l
theorem fndS_drop {p : Rg → Bool} : ∀ {l : List Rg} {k : Nat}, k ≤ l.length → (∀ i, i < k → p (l.getD i noRg) = false) → fndS p l = fndS p (l.drop k)
  | _, 0, _, _ => rfl
  | [], k + 1, h, _ => by simp at h
  | r :: l, k + 1, h, ha => by
    have h0 := ha 0 (by omega)
    simp only [List.getD_cons_zero] at h0
    rw [fndS, h0, List.drop_succ_cons]
    exact fndS_drop (by simpa using h) fun i hi => by simpa using ha (i + 1) (by omega)
theorem fndS_hit {p : Rg → Bool} {l : List Rg} {k : Nat} (h : k < l.length) (ha : ∀ i, i < k → p (l.getD i noRg) = false) (hk : p (l.getD k noRg) = true) : fndS p l = (l.getD k noRg, true) := by
  rw [fndS_drop (by omega) ha, List.drop_eq_getElem_cons h, fndS]
  have e : l.getD k noRg = l[k] := by rw [List.getD_eq_getElem?_getD, List.getElem?_eq_getElem h]; rfl
  rw [e] at hk ⊢
  rw [hk]
  rfl
theorem fndS_none {p : Rg → Bool} {l : List Rg} (ha : ∀ i, i < l.length → p (l.getD i noRg) = false) : fndS p l = (noRg, false) := by
  rw [fndS_drop (Nat.le_refl _) ha, List.drop_length]
  rfl

theorem box_last (w : World) (A : Obj) (t : TypeId) (cs : List Value) : Box t cs (w.heap.size + 1) ((w.alloc A).alloc (.cells cs.toArray t)) := by
  have := Box.made (w.alloc A) t cs
  simpa using this
theorem Box.three {t : TypeId} {a b c : Value} {B : Nat} {w : World} (h : Box t [a, b, c] B w) (x y z : Value) : Box t [x, y, z] B (((w.setCell ⟨B, 0, none⟩ x).setCell ⟨B, 1, none⟩ y).setCell ⟨B, 2, none⟩ z) :=
  ((h.set 0 x).set 1 y).set 2 z
theorem below_three {base B : Nat} {a b c : Value} {w0 w : World} (h : Below base w0 w) (hB : base ≤ B) : Below base w0 (((w.setCell ⟨B, 0, none⟩ a).setCell ⟨B, 1, none⟩ b).setCell ⟨B, 2, none⟩ c) :=
  ((h.setCell hB _).setCell hB _).setCell hB _
theorem ucdWhole (a b c : Int) (w : World) : Calls Tryz.prog 107 #[.agg #[.int .i64 a, .int .i64 b, .int .i64 c]] w fun e w' => e = .returned (.int .i64 a) ∧ Below w.heap.size w w' := by
  go_enter Tryz.func107, Tryz.ntmps107
  go_wp2_with (fail)
  go_ret
  exact ⟨rfl, by (repeat (first | exact Below.refl _ _ | exact below_drewN _ | refine Below.drew ?_ | refine Below.alloc ?_ (by simp) _ | refine Below.setCell ?_ (by simp) _ | refine below_drewN' ?_ _))⟩
theorem ucdParts (a b c : Int) (w : World) : Calls Tryz.prog 109 #[.agg #[.int .i64 a, .int .i64 b, .int .i64 c]] w fun e w' => e = .returned (.agg #[.int .i64 b, .int .i64 c]) ∧ Below w.heap.size w w' := by
  go_enter Tryz.func109, Tryz.ntmps109
  go_wp2_with (fail)
  refine bodyPost_ret (results_one rfl rfl (loadC2 (box_last _ _ _ _))) rfl ⟨rfl, by (repeat (first | exact Below.refl _ _ | exact below_drewN _ | refine Below.drew ?_ | refine Below.alloc ?_ (by simp) _ | refine Below.setCell ?_ (by simp) _ | refine below_drewN' ?_ _))⟩

set_option maxHeartbeats 2000000 in
theorem ucdFind1 (v : Value) (l : List Rg) (c : Int) (w : World) (h : Sg w v l) :
    Calls Tryz.prog 103 #[.agg #[v, .func (.func 107) #[] #[]], .int .i64 c] w fun e w' =>
      e = .returned (.tuple #[.agg #[.int .i64 (fndS (fun r => r.f == c) l).1.f, .int .i64 (fndS (fun r => r.f == c) l).1.t, .int .i64 (fndS (fun r => r.f == c) l).1.v], .bool (fndS (fun r => r.f == c) l).2]) ∧ Below w.heap.size w w' := by
  have ml := h.len
  obtain ⟨a1, cap1, rfl, q1, -, h1⟩ := h
  obtain ⟨n, hn⟩ : ∃ n, n = l.length := ⟨_, rfl⟩
  obtain ⟨R, hR⟩ : ∃ R, R = fndS (fun r => r.f == c) l := ⟨_, rfl⟩
  have hH : ∀ k, k < n → (∀ i, i < k → ((l.getD i noRg).f == c) = false) → ((l.getD k noRg).f == c) = true → R = (l.getD k noRg, true) := fun k hk ha hh => hR.trans (fndS_hit (p := fun r => r.f == c) (by omega) ha hh)
  have hN : (∀ i, i < n → ((l.getD i noRg).f == c) = false) → R = (noRg, false) := fun ha => hR.trans (fndS_none (p := fun r => r.f == c) (by rw [← hn]; exact ha))
  rw [← hR]
  have HH := hid hH
  have HN := hid hN
  have H1 := hid h1
  rw [← hn] at ml q1 H1 ⊢
  clear hH hN h1 hn hR
  go_enter Tryz.func103, Tryz.ntmps103
  go_wp2_with (fail)
  go_loopw [12] (fun iv wr => ∃ k : Nat, k ≤ n ∧ iv = .int .i64 k ∧ Hid (Box 119 [.slice a1 n cap1, .func (.func 107) #[] #[]] w.heap.size wr) ∧ Hid (Box 49 [.int .i64 0, .int .i64 0, .int .i64 0] (w.heap.size + 1) wr) ∧ Hid (Below w.heap.size w wr) ∧ Hid (∀ i, i < k → ((l.getD i noRg).f == c) = false)) (fun iv _ => n - (intOf iv).toNat)
  case atStart => exact ⟨0, by omega, rfl, (Box.made w 119 _).alloc _, box_last _ _ _ _, by (repeat (first | exact Below.refl _ _ | exact below_drewN _ | refine Below.drew ?_ | refine Below.alloc ?_ (by simp) _ | refine Below.setCell ?_ (by simp) _ | refine below_drewN' ?_ _)), fun i hi => absurd hi (by omega)⟩
  case round =>
    obtain ⟨k, hk, rfl, hbt, hbr, hbel, hall⟩ := hrel
    have hsz := hbr.out.lt
    by_cases hlt : k < n
    · rcases H1.out with hc | ⟨b1, o1, rfl, hb1, c1⟩
      · omega
      have hb1' := hb1 (by omega)
      obtain ⟨d1, d2, d3⟩ := c1 k hlt
      have d1 := (hbel.out.cell (p := ⟨b1, o1 + k * 3, none⟩) hb1').trans d1
      have d2 := (hbel.out.cell (p := ⟨b1, o1 + k * 3 + 1, none⟩) hb1').trans d2
      have d3 := (hbel.out.cell (p := ⟨b1, o1 + k * 3 + 2, none⟩) hb1').trans d3
      have hh := hid (HH.out k hlt hall.out)
      have HNX := hid (show ((l.getD k noRg).f == c) = false → ∀ i, i < k + 1 → ((l.getD i noRg).f == c) = false from fun he i hi => by
        rcases Nat.lt_or_ge i k with h | h
        · exact hall.out i h
        · obtain rfl : i = k := by omega
          exact he)
      clear c1
      generalize l.getD k noRg = r at d1 d2 d3 hh HNX
      obtain ⟨rf, rt, rv⟩ := r
      simp only at d1 d2 d3 hh HNX
      obtain ⟨b, hb⟩ : ∃ b, b = (rf == c) := ⟨_, rfl⟩
      rw [← hb] at hh HNX
      replace hb := hb.symm
      have HBW := hid (show Below wr.heap.size wr (wr.alloc (.cells #[.int .i64 rf, .int .i64 rt, .int .i64 rv] 49)) by (repeat (first | exact Below.refl _ _ | exact below_drewN _ | refine Below.drew ?_ | refine Below.alloc ?_ (by simp) _ | refine Below.setCell ?_ (by simp) _ | refine below_drewN' ?_ _)))
      have HNW := hid (Box.made wr 49 [.int .i64 rf, .int .i64 rt, .int .i64 rv])
      have HRA := hid (hbr.out.alloc (.cells #[.int .i64 rf, .int .i64 rt, .int .i64 rv] 49))
      have HTA := hid (hbt.out.alloc (.cells #[.int .i64 rf, .int .i64 rt, .int .i64 rv] 49))
      have x1 := HTA.out.cell 1
      simp only [List.getElem?_cons_zero, List.getElem?_cons_succ] at x1
      cases b with
      | true =>
        have hr := hid (hh.out rfl)
        go_wp2_with (go_at_call 107; refine (ucdWhole rf rt rv _).mono ?_; rintro e wu ⟨rfl, hbu⟩; have HBU := hid (hbel.out.trans ((HBW.out.trans (hbu.mono HBW.out.size)).mono hbel.out.size)); have HRU := hid (HRA.out.below hbu HRA.out.lt); have HNU := hid (HNW.out.below hbu HNW.out.lt); clear hbu; have y2 := HNU.out.cell 0; have y3 := HNU.out.cell 1; have y4 := HNU.out.cell 2; have z0 := HRU.out.ice 0; have z1 := HRU.out.ice 1; have z2 := HRU.out.ice 2; have w0 := HRU.out.cell 0; have w1 := HRU.out.cell 1; have w2 := HRU.out.cell 2; simp only [List.getElem?_cons_zero, List.getElem?_cons_succ] at w0 w1 w2 y2 y3 y4)
        refine bodyPost_ret (results_two rfl rfl (loadC3 (HRU.out.three _ _ _))) rfl ⟨by rw [hr.out]; rfl, below_three HBU.out (by omega)⟩
      | false =>
        have hr := hid (HNX.out rfl)
        go_wp2_with (go_at_call 107; refine (ucdWhole rf rt rv _).mono ?_; rintro e wu ⟨rfl, hbu⟩; have HBU := hid (hbel.out.trans ((HBW.out.trans (hbu.mono HBW.out.size)).mono hbel.out.size)); have HRU := hid (HRA.out.below hbu HRA.out.lt); have HTU := hid (HTA.out.below hbu HTA.out.lt); clear hbu)
        go_roundw
        case rel => exact ⟨k + 1, by omega, by go_num, HTU.out, HRU.out, HBU.out, hr.out⟩
        case measure => simp [intOf]; omega
    · obtain rfl : k = n := by omega
      have hr := hid (HN.out hall.out)
      have z0 := hbr.out.ice 0
      have z1 := hbr.out.ice 1
      have z2 := hbr.out.ice 2
      have w0 := hbr.out.cell 0
      have w1 := hbr.out.cell 1
      have w2 := hbr.out.cell 2
      simp only [List.getElem?_cons_zero, List.getElem?_cons_succ] at w0 w1 w2
      have HB3 := hid (below_three (B := w.heap.size + 1) (a := .int .i64 0) (b := .int .i64 0) (c := .int .i64 0) hbel.out (by omega))
      have HR3 := hid (hbr.out.three (.int .i64 0) (.int .i64 0) (.int .i64 0))
      go_wp2_with (fail)
      refine bodyPost_ret (results_two rfl rfl (loadC3 (HR3.out.alloc _))) rfl ⟨by rw [hr.out]; rfl, HB3.out.alloc HB3.out.size _⟩
end Go.Proofs.YtildhebaikeknaaGreat

/-! Ucd3 -/
namespace Go.Proofs.YtildhebaikeknaaGreat
open Go.RowKit

/-- the first entry with a scalar, and whether there is one -/
def fndM (c : Int) : List Mp → Mp × Bool
  | [] => (noMp, false)
  | r :: l => if r.f == c then (r, true) else fndM c l
theorem fndM_drop {c : Int} : ∀ {l : List Mp} {k : Nat}, k ≤ l.length → (∀ i, i < k → ((l.getD i noMp).f == c) = false) → fndM c l = fndM c (l.drop k)
  | _, 0, _, _ => rfl
  | [], k + 1, h, _ => by simp at h
  | r :: l, k + 1, h, ha => by
    have h0 := ha 0 (by omega)
    simp only [List.getD_cons_zero] at h0
    rw [fndM, h0, List.drop_succ_cons]
    exact fndM_drop (by simpa using h) fun i hi => by simpa using ha (i + 1) (by omega)
theorem fndM_hit {c : Int} {l : List Mp} {k : Nat} (h : k < l.length) (ha : ∀ i, i < k → ((l.getD i noMp).f == c) = false) (hk : ((l.getD k noMp).f == c) = true) : fndM c l = (l.getD k noMp, true) := by
  rw [fndM_drop (by omega) ha, List.drop_eq_getElem_cons h, fndM]
  have e : l.getD k noMp = l[k] := by rw [List.getD_eq_getElem?_getD, List.getElem?_eq_getElem h]; rfl
  rw [e] at hk ⊢
  rw [hk]
  rfl
theorem fndM_none {c : Int} {l : List Mp} (ha : ∀ i, i < l.length → ((l.getD i noMp).f == c) = false) : fndM c l = (noMp, false) := by
  rw [fndM_drop (Nat.le_refl _) ha, List.drop_length]
  rfl

theorem sl_nil (k : IntKind) (w : World) : Sl k w (.slice none 0 0) [] := ⟨none, 0, rfl, Nat.le_refl _, by unfold maxLen; omega, .inl rfl⟩
theorem Box.pair {t : TypeId} {a b : Value} {B : Nat} {w : World} (h : Box t [a, b] B w) (x y : Value) : Box t [x, y] B ((w.setCell ⟨B, 0, none⟩ x).setCell ⟨B, 1, none⟩ y) :=
  (h.set 0 x).set 1 y
theorem below_pair {base B : Nat} {a b : Value} {w0 w : World} (h : Below base w0 w) (hB : base ≤ B) : Below base w0 ((w.setCell ⟨B, 0, none⟩ a).setCell ⟨B, 1, none⟩ b) :=
  (h.setCell hB _).setCell hB _
end Go.Proofs.YtildhebaikeknaaGreat

/-! Ucd4 -/
namespace Go.Proofs.YtildhebaikeknaaGreat
open Go.RowKit

theorem box_third (w : World) (A B : Obj) (t : TypeId) (cs : List Value) : Box t cs (w.heap.size + 2) (((w.alloc A).alloc B).alloc (.cells cs.toArray t)) := by
  have := Box.made ((w.alloc A).alloc B) t cs
  simpa using this
set_option maxHeartbeats 2000000 in
theorem ucdFind2 (v : Value) (l : List Rg) (c d : Int) (w : World) (h : Sg w v l) :
    Calls Tryz.prog 105 #[.agg #[v, .func (.func 109) #[] #[]], .agg #[.int .i64 c, .int .i64 d]] w fun e w' =>
      e = .returned (.tuple #[.agg #[.int .i64 (fndS (fun r => r.t == c && r.v == d) l).1.f, .int .i64 (fndS (fun r => r.t == c && r.v == d) l).1.t, .int .i64 (fndS (fun r => r.t == c && r.v == d) l).1.v], .bool (fndS (fun r => r.t == c && r.v == d) l).2]) ∧ Below w.heap.size w w' := by
  have ml := h.len
  obtain ⟨a1, cap1, rfl, q1, -, h1⟩ := h
  obtain ⟨n, hn⟩ : ∃ n, n = l.length := ⟨_, rfl⟩
  obtain ⟨R, hR⟩ : ∃ R, R = fndS (fun r => r.t == c && r.v == d) l := ⟨_, rfl⟩
  have hH : ∀ k, k < n → (∀ i, i < k → ((l.getD i noRg).t == c && (l.getD i noRg).v == d) = false) → ((l.getD k noRg).t == c && (l.getD k noRg).v == d) = true → R = (l.getD k noRg, true) := fun k hk ha hh => hR.trans (fndS_hit (p := fun r => r.t == c && r.v == d) (by omega) ha hh)
  have hN : (∀ i, i < n → ((l.getD i noRg).t == c && (l.getD i noRg).v == d) = false) → R = (noRg, false) := fun ha => hR.trans (fndS_none (p := fun r => r.t == c && r.v == d) (by rw [← hn]; exact ha))
  rw [← hR]
  have HH := hid hH
  have HN := hid hN
  have H1 := hid h1
  rw [← hn] at ml q1 H1 ⊢
  clear hH hN h1 hn hR
  go_enter Tryz.func105, Tryz.ntmps105
  go_wp2_with (fail)
  go_loopw [12] (fun iv wr => ∃ k : Nat, k ≤ n ∧ iv = .int .i64 k ∧ Hid (Box 124 [.slice a1 n cap1, .func (.func 109) #[] #[]] w.heap.size wr) ∧ Hid (Box 127 [.int .i64 c, .int .i64 d] (w.heap.size + 1) wr) ∧ Hid (Box 49 [.int .i64 0, .int .i64 0, .int .i64 0] (w.heap.size + 2) wr) ∧ Hid (Below w.heap.size w wr) ∧ Hid (∀ i, i < k → ((l.getD i noRg).t == c && (l.getD i noRg).v == d) = false)) (fun iv _ => n - (intOf iv).toNat)
  case atStart => exact ⟨0, by omega, rfl, ((Box.made w 124 _).alloc _).alloc _, (box_last _ _ _ _).alloc _, box_third _ _ _ _ _, by (repeat (first | exact Below.refl _ _ | exact below_drewN _ | refine Below.drew ?_ | refine Below.alloc ?_ (by first | omega | (simp; done) | (simp; omega)) _ | refine Below.setCell ?_ (by first | (simp; done) | (simp; omega)) _ | refine below_drewN' ?_ _)), fun i hi => absurd hi (by omega)⟩
  case round =>
    obtain ⟨k, hk, rfl, hbt, hbk, hbr, hbel, hall⟩ := hrel
    have hsz := hbr.out.lt
    by_cases hlt : k < n
    · rcases H1.out with hc | ⟨b1, o1, rfl, hb1, c1⟩
      · omega
      have hb1' := hb1 (by omega)
      obtain ⟨d1, d2, d3⟩ := c1 k hlt
      have d1 := (hbel.out.cell (p := ⟨b1, o1 + k * 3, none⟩) hb1').trans d1
      have d2 := (hbel.out.cell (p := ⟨b1, o1 + k * 3 + 1, none⟩) hb1').trans d2
      have d3 := (hbel.out.cell (p := ⟨b1, o1 + k * 3 + 2, none⟩) hb1').trans d3
      have hh := hid (HH.out k hlt hall.out)
      have HNX := hid (show ((l.getD k noRg).t == c && (l.getD k noRg).v == d) = false → ∀ i, i < k + 1 → ((l.getD i noRg).t == c && (l.getD i noRg).v == d) = false from fun he i hi => by
        rcases Nat.lt_or_ge i k with h | h
        · exact hall.out i h
        · obtain rfl : i = k := by omega
          exact he)
      clear c1
      generalize l.getD k noRg = r at d1 d2 d3 hh HNX
      obtain ⟨rf, rt, rv⟩ := r
      simp only at d1 d2 d3 hh HNX
      obtain ⟨b, hb⟩ : ∃ b, b = (rt == c && rv == d) := ⟨_, rfl⟩
      rw [← hb] at hh HNX
      have hq := fun w => (eq_c2 rt rv c d w).trans (by rw [← hb])
      have hg := (by kernel_rfl : Tryz.prog.eqGuardType Tryz.prog.depth 127 = false)
      clear hb
      have HBW := hid (show Below wr.heap.size wr (wr.alloc (.cells #[.int .i64 rf, .int .i64 rt, .int .i64 rv] 49)) by (repeat (first | exact Below.refl _ _ | exact below_drewN _ | refine Below.drew ?_ | refine Below.alloc ?_ (by simp) _ | refine Below.setCell ?_ (by simp) _ | refine below_drewN' ?_ _)))
      have HNW := hid (Box.made wr 49 [.int .i64 rf, .int .i64 rt, .int .i64 rv])
      have HRA := hid (hbr.out.alloc (.cells #[.int .i64 rf, .int .i64 rt, .int .i64 rv] 49))
      have HTA := hid (hbt.out.alloc (.cells #[.int .i64 rf, .int .i64 rt, .int .i64 rv] 49))
      have HKA := hid (hbk.out.alloc (.cells #[.int .i64 rf, .int .i64 rt, .int .i64 rv] 49))
      go_wp2_with (fail)
      generalize wr.alloc (.cells #[.int .i64 rf, .int .i64 rt, .int .i64 rv] 49) = W at HBW HNW HRA HTA HKA ⊢
      have HNW : Hid (Box 49 [.int .i64 rf, .int .i64 rt, .int .i64 rv] wr.heap.size W) := HNW
      have x1 := HTA.out.cell 1
      have x2 := HNW.out.cell 0
      have x3 := HNW.out.cell 1
      have x4 := HNW.out.cell 2
      have x5 := HKA.out.cell 0
      have x6 := HKA.out.cell 1
      simp only [List.getElem?_cons_zero, List.getElem?_cons_succ] at x1 x2 x3 x4 x5 x6
      have s1 := fun u : Later W => u.cell x1
      have s2 := fun u : Later W => u.cell x2
      have s3 := fun u : Later W => u.cell x3
      have s4 := fun u : Later W => u.cell x4
      have s5 := fun u : Later W => u.cell x5
      have s6 := fun u : Later W => u.cell x6
      have HK := hid (fun u : Later W => later_call (ucdParts rf rt rv u.w))
      clear x1 x2 x3 x4 x5 x6 d1 d2 d3
      refine region_later (by kernel_rfl) (by kernel_rfl) ?_
      repeat (go_big_quiet_step ((go_at_call 109; with_reducible exact HK.out _)))
      refine wpQuiet_nil ?_
      intro _ hw'
      obtain ⟨u, hw''⟩ := hw'
      subst hw''
      have HBU := hid (hbel.out.trans ((HBW.out.trans (u.below.mono HBW.out.size)).mono hbel.out.size))
      have HRU := hid (HRA.out.below u.below HRA.out.lt)
      have HTU := hid (HTA.out.below u.below HTA.out.lt)
      have HKU := hid (HKA.out.below u.below HKA.out.lt)
      have y2 := s2 u
      have y3 := s3 u
      have y4 := s4 u
      have z0 := HRU.out.ice 0
      have z1 := HRU.out.ice 1
      have z2 := HRU.out.ice 2
      have w0 := HRU.out.cell 0
      have w1 := HRU.out.cell 1
      have w2 := HRU.out.cell 2
      simp only [List.getElem?_cons_zero, List.getElem?_cons_succ] at w0 w1 w2
      clear s1 s2 s3 s4 s5 s6 HK
      cases b with
      | true =>
        have hr := hid (hh.out rfl)
        go_wp2_with (fail)
        refine bodyPost_ret (results_two rfl rfl (loadC3 (HRU.out.three _ _ _))) rfl ⟨by rw [hr.out]; rfl, below_three HBU.out (by omega)⟩
      | false =>
        have hr := hid (HNX.out rfl)
        go_wp2_with (fail)
        go_roundw
        case rel => exact ⟨k + 1, by omega, by go_num, HTU.out, HKU.out, HRU.out, HBU.out, hr.out⟩
        case measure => simp [intOf]; omega
    · obtain rfl : k = n := by omega
      have hr := hid (HN.out hall.out)
      have z0 := hbr.out.ice 0
      have z1 := hbr.out.ice 1
      have z2 := hbr.out.ice 2
      have w0 := hbr.out.cell 0
      have w1 := hbr.out.cell 1
      have w2 := hbr.out.cell 2
      simp only [List.getElem?_cons_zero, List.getElem?_cons_succ] at w0 w1 w2
      have HB3 := hid (below_three (B := w.heap.size + 2) (a := .int .i64 0) (b := .int .i64 0) (c := .int .i64 0) hbel.out (by omega))
      have HR3 := hid (hbr.out.three (.int .i64 0) (.int .i64 0) (.int .i64 0))
      go_wp2_with (fail)
      refine bodyPost_ret (results_two rfl rfl (loadC3 (HR3.out.alloc _))) rfl ⟨by rw [hr.out]; rfl, HB3.out.alloc HB3.out.size _⟩
end Go.Proofs.YtildhebaikeknaaGreat
