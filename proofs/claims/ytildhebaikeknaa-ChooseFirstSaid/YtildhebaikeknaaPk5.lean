/- Several texts in one: Res6, Ucd2, Ucd3. -/
import Derived.Test.YtildhebaikeknaaPk1
import Derived.Test.YtildhebaikeknaaPk3
import Derived.Test.YtildhebaikeknaaPk4
/-! Res6 -/
namespace Go.Proofs.Ytildhebaikeknaa
open Go.RowKit

theorem asAddr_ptr6 (P : Program) (w : World) (a : Addr) : (asAddr (.pointer (some a))).run P w = .ok a w := by simp [asAddr]
theorem results_one {P : Program} {fn : Func} {p : Tmp} {ty : TypeId} (h : fn.results = #[.cell p ty]) {tmps : Array Value} {B : Nat} (hp : tmps.getD p undef = .pointer (some ⟨B, 0, none⟩)) {w : World} {y : Value} (hl : (loadVar ty ⟨B, 0, none⟩).run P w = .ok y w) :
    (results fn tmps).run P w = .ok y w := by
  have e : (results fn tmps).run P w = ((asAddr (tmps.getD p undef)).run P w).andThen fun a w₁ => (loadVar ty a).run P w₁ := by
    simp only [results, h]
    simp [Sem.run_bind, Result.andThen]
  rw [e, hp, asAddr_ptr6]
  simp only [Result.andThen]
  rw [hl]
theorem results_two {P : Program} {fn : Func} {p u : Tmp} {ty : TypeId} (h : fn.results = #[.cell p ty, .tmp u]) {tmps : Array Value} {B : Nat} (hp : tmps.getD p undef = .pointer (some ⟨B, 0, none⟩)) {w : World} {y : Value} (hl : (loadVar ty ⟨B, 0, none⟩).run P w = .ok y w) :
    (results fn tmps).run P w = .ok (.tuple #[y, tmps.getD u undef]) w := by
  have e : (results fn tmps).run P w = ((asAddr (tmps.getD p undef)).run P w).andThen fun a w₁ => ((loadVar ty a).run P w₁).andThen fun y w₂ => .ok (.tuple #[y, tmps.getD u undef]) w₂ := by
    simp only [results, h]
    simp [Sem.run_bind, Result.andThen]
  rw [e, hp, asAddr_ptr6]
  simp only [Result.andThen]
  rw [hl]
theorem loadC3 {a b c : Value} {B : Nat} {w : World} (h : Box 73 [a, b, c] B w) : (loadVar 73 ⟨B, 0, none⟩).run Try.prog w = .ok (.agg #[a, b, c]) w := by
  have k0 := h.cell 0
  have k1 := h.cell 1
  have k2 := h.cell 2
  simp only [List.getElem?_cons_zero, List.getElem?_cons_succ] at k0 k1 k2
  simp [go_sem, k0, k1, k2]
theorem loadC2 {a b : Value} {B : Nat} {w : World} (h : Box 101 [a, b] B w) : (loadVar 101 ⟨B, 0, none⟩).run Try.prog w = .ok (.agg #[a, b]) w := by
  have k0 := h.cell 0
  have k1 := h.cell 1
  simp only [List.getElem?_cons_zero, List.getElem?_cons_succ] at k0 k1
  simp [go_sem, k0, k1]
theorem loadT1 {a b : Value} {B : Nat} {w : World} (h : Box 93 [a, b] B w) : (loadVar 93 ⟨B, 0, none⟩).run Try.prog w = .ok (.agg #[a, b]) w := by
  have k0 := h.cell 0
  have k1 := h.cell 1
  simp only [List.getElem?_cons_zero, List.getElem?_cons_succ] at k0 k1
  simp [go_sem, k0, k1]
theorem loadT2 {a b : Value} {B : Nat} {w : World} (h : Box 98 [a, b] B w) : (loadVar 98 ⟨B, 0, none⟩).run Try.prog w = .ok (.agg #[a, b]) w := by
  have k0 := h.cell 0
  have k1 := h.cell 1
  simp only [List.getElem?_cons_zero, List.getElem?_cons_succ] at k0 k1
  simp [go_sem, k0, k1]
theorem eq_c2 (b c p q : Int) (w : World) : (binOp .eql 101 (.agg #[.int .i64 b, .int .i64 c]) (.agg #[.int .i64 p, .int .i64 q])).run Try.prog w = .ok (.bool (b == p && c == q)) w := by
  have u3 := Try.underlying3
  have a3 := Try.isAgg3
  have z3 := Try.sizeOf3
  rw [run_eql_struct, show (10000 : Nat) = 9999 + 1 from rfl]
  unfold Op.equalIn
  simp only [Sem.run_bind, run_underlying Try.underlying101, Result.andThen_ok]
  go_simp
  rw [show List.range' 0 2 = [0, 1] from rfl]
  simp only [List.forIn_cons, List.forIn_nil]
  go_simp
  by_cases h1 : b = p <;> by_cases h2 : c = q <;> simp [h1, h2, go_sem]
end Go.Proofs.Ytildhebaikeknaa

/-! Ucd2 -/
namespace Go.Proofs.Ytildhebaikeknaa
open Go.RowKit

/-- the first of a list that has a property, and whether there is one -/
def fndS (p : Rg → Bool) : List Rg → Rg × Bool
  | [] => (noRg, false)
  | r :: l => if p r then (r, true) else fndS p l
theorem fndS_drop {p : Rg → Bool} : ∀ {l : List Rg} {k : Nat}, k ≤ l.length → (∀ i, i < k → p (l.getD i noRg) = false) → fndS p l = fndS p (l.drop k)
  | _, 0, _, _ => rfl
  | [], k + 1, h, _ => by simp at h
  | r :: l, k + 1, h, ha => by
    have h0 := ha 0 (by omega)
    simp only [List.getD_cons_zero] at h0
    rw [fndS, h0, List.drop_succ_cons]
    exact fndS_drop (by simpa using h) fun i hi => by simpa using ha (i + 1) (by omega)
theorem fndS_hit {p : Rg → Bool} {l : List Rg} {k : Nat} (h : k < l.length) (ha : ∀ i, i < k → p (l.getD i noRg) = false) (hk : p (l.getD k noRg) = true) : fndS p l = (l.getD k noRg, true) := by
  rw [fndS_drop (by omega) ha, List.drop_eq_getElem_cons h, fndS]
  have e : l.getD k noRg = l[k] := by rw [List.getD_eq_getElem?_getD, List.getElem?_eq_getElem h]; rfl
  rw [e] at hk ⊢
  rw [hk]
  rfl
theorem fndS_none {p : Rg → Bool} {l : List Rg} (ha : ∀ i, i < l.length → p (l.getD i noRg) = false) : fndS p l = (noRg, false) := by
  rw [fndS_drop (Nat.le_refl _) ha, List.drop_length]
  rfl

theorem box_last (w : World) (A : Obj) (t : TypeId) (cs : List Value) : Box t cs (w.heap.size + 1) ((w.alloc A).alloc (.cells cs.toArray t)) := by
  have := Box.made (w.alloc A) t cs
  simpa using this
theorem Box.three {t : TypeId} {a b c : Value} {B : Nat} {w : World} (h : Box t [a, b, c] B w) (x y z : Value) : Box t [x, y, z] B (((w.setCell ⟨B, 0, none⟩ x).setCell ⟨B, 1, none⟩ y).setCell ⟨B, 2, none⟩ z) :=
  ((h.set 0 x).set 1 y).set 2 z
theorem below_three {base B : Nat} {a b c : Value} {w0 w : World} (h : Below base w0 w) (hB : base ≤ B) : Below base w0 (((w.setCell ⟨B, 0, none⟩ a).setCell ⟨B, 1, none⟩ b).setCell ⟨B, 2, none⟩ c) :=
  ((h.setCell hB _).setCell hB _).setCell hB _
theorem ucdWhole (a b c : Int) (w : World) : Calls Try.prog 72 #[.agg #[.int .i64 a, .int .i64 b, .int .i64 c]] w fun e w' => e = .returned (.int .i64 a) ∧ Below w.heap.size w w' := by
  go_enter Try.func72, Try.ntmps72
  go_wp2_with (fail)
  go_ret
  exact ⟨rfl, by (repeat (first | exact Below.refl _ _ | exact below_drewN _ | refine Below.drew ?_ | refine Below.alloc ?_ (by simp) _ | refine Below.setCell ?_ (by simp) _ | refine below_drewN' ?_ _))⟩
theorem ucdParts (a b c : Int) (w : World) : Calls Try.prog 76 #[.agg #[.int .i64 a, .int .i64 b, .int .i64 c]] w fun e w' => e = .returned (.agg #[.int .i64 b, .int .i64 c]) ∧ Below w.heap.size w w' := by
  go_enter Try.func76, Try.ntmps76
  go_wp2_with (fail)
  refine bodyPost_ret (results_one rfl rfl (loadC2 (box_last _ _ _ _))) rfl ⟨rfl, by (repeat (first | exact Below.refl _ _ | exact below_drewN _ | refine Below.drew ?_ | refine Below.alloc ?_ (by simp) _ | refine Below.setCell ?_ (by simp) _ | refine below_drewN' ?_ _))⟩

set_option maxHeartbeats 2000000 in
theorem ucdFind1 (v : Value) (l : List Rg) (c : Int) (w : World) (h : Sg w v l) :
    Calls Try.prog 67 #[.agg #[v, .func (.func 72) #[] #[]], .int .i64 c] w fun e w' =>
      e = .returned (.tuple #[.agg #[.int .i64 (fndS (fun r => r.f == c) l).1.f, .int .i64 (fndS (fun r => r.f == c) l).1.t, .int .i64 (fndS (fun r => r.f == c) l).1.v], .bool (fndS (fun r => r.f == c) l).2]) ∧ Below w.heap.size w w' := by
  have ml := h.len
  obtain ⟨a1, cap1, rfl, q1, -, h1⟩ := h
  obtain ⟨n, hn⟩ : ∃ n, n = l.length := ⟨_, rfl⟩
  obtain ⟨R, hR⟩ : ∃ R, R = fndS (fun r => r.f == c) l := ⟨_, rfl⟩
  have hH : ∀ k, k < n → (∀ i, i < k → ((l.getD i noRg).f == c) = false) → ((l.getD k noRg).f == c) = true → R = (l.getD k noRg, true) := fun k hk ha hh => hR.trans (fndS_hit (p := fun r => r.f == c) (by omega) ha hh)
  have hN : (∀ i, i < n → ((l.getD i noRg).f == c) = false) → R = (noRg, false) := fun ha => hR.trans (fndS_none (p := fun r => r.f == c) (by rw [← hn]; exact ha))
  rw [← hR]
  have HH := hid hH
  have HN := hid hN
  have H1 := hid h1
  rw [← hn] at ml q1 H1 ⊢
  clear hH hN h1 hn hR
  go_enter Try.func67, Try.ntmps67
  go_wp2_with (fail)
  go_loopw [12] (fun iv wr => ∃ k : Nat, k ≤ n ∧ iv = .int .i64 k ∧ Hid (Box 93 [.slice a1 n cap1, .func (.func 72) #[] #[]] w.heap.size wr) ∧ Hid (Box 73 [.int .i64 0, .int .i64 0, .int .i64 0] (w.heap.size + 1) wr) ∧ Hid (Below w.heap.size w wr) ∧ Hid (∀ i, i < k → ((l.getD i noRg).f == c) = false)) (fun iv _ => n - (intOf iv).toNat)
  case atStart => exact ⟨0, by omega, rfl, (Box.made w 93 _).alloc _, box_last _ _ _ _, by (repeat (first | exact Below.refl _ _ | exact below_drewN _ | refine Below.drew ?_ | refine Below.alloc ?_ (by simp) _ | refine Below.setCell ?_ (by simp) _ | refine below_drewN' ?_ _)), fun i hi => absurd hi (by omega)⟩
  case round =>
    obtain ⟨k, hk, rfl, hbt, hbr, hbel, hall⟩ := hrel
    have hsz := hbr.out.lt
    by_cases hlt : k < n
    · rcases H1.out with hc | ⟨b1, o1, rfl, hb1, c1⟩
      · omega
      have hb1' := hb1 (by omega)
      obtain ⟨d1, d2, d3⟩ := c1 k hlt
      have d1 := (hbel.out.cell (p := ⟨b1, o1 + k * 3, none⟩) hb1').trans d1
      have d2 := (hbel.out.cell (p := ⟨b1, o1 + k * 3 + 1, none⟩) hb1').trans d2
      have d3 := (hbel.out.cell (p := ⟨b1, o1 + k * 3 + 2, none⟩) hb1').trans d3
      have hh := hid (HH.out k hlt hall.out)
      have HNX := hid (show ((l.getD k noRg).f == c) = false → ∀ i, i < k + 1 → ((l.getD i noRg).f == c) = false from fun he i hi => by
        rcases Nat.lt_or_ge i k with h | h
        · exact hall.out i h
        · obtain rfl : i = k := by omega
          exact he)
      clear c1
      generalize l.getD k noRg = r at d1 d2 d3 hh HNX
      obtain ⟨rf, rt, rv⟩ := r
      simp only at d1 d2 d3 hh HNX
      obtain ⟨b, hb⟩ : ∃ b, b = (rf == c) := ⟨_, rfl⟩
      rw [← hb] at hh HNX
      replace hb := hb.symm
      have HBW := hid (show Below wr.heap.size wr (wr.alloc (.cells #[.int .i64 rf, .int .i64 rt, .int .i64 rv] 73)) by (repeat (first | exact Below.refl _ _ | exact below_drewN _ | refine Below.drew ?_ | refine Below.alloc ?_ (by simp) _ | refine Below.setCell ?_ (by simp) _ | refine below_drewN' ?_ _)))
      have HNW := hid (Box.made wr 73 [.int .i64 rf, .int .i64 rt, .int .i64 rv])
      have HRA := hid (hbr.out.alloc (.cells #[.int .i64 rf, .int .i64 rt, .int .i64 rv] 73))
      have HTA := hid (hbt.out.alloc (.cells #[.int .i64 rf, .int .i64 rt, .int .i64 rv] 73))
      have x1 := HTA.out.cell 1
      simp only [List.getElem?_cons_zero, List.getElem?_cons_succ] at x1
      cases b with
      | true =>
        have hr := hid (hh.out rfl)
        go_wp2_with (go_at_call 72; refine (ucdWhole rf rt rv _).mono ?_; rintro e wu ⟨rfl, hbu⟩; have HBU := hid (hbel.out.trans ((HBW.out.trans (hbu.mono HBW.out.size)).mono hbel.out.size)); have HRU := hid (HRA.out.below hbu HRA.out.lt); have HNU := hid (HNW.out.below hbu HNW.out.lt); clear hbu; have y2 := HNU.out.cell 0; have y3 := HNU.out.cell 1; have y4 := HNU.out.cell 2; have z0 := HRU.out.ice 0; have z1 := HRU.out.ice 1; have z2 := HRU.out.ice 2; have w0 := HRU.out.cell 0; have w1 := HRU.out.cell 1; have w2 := HRU.out.cell 2; simp only [List.getElem?_cons_zero, List.getElem?_cons_succ] at w0 w1 w2 y2 y3 y4)
        refine bodyPost_ret (results_two rfl rfl (loadC3 (HRU.out.three _ _ _))) rfl ⟨by rw [hr.out]; rfl, below_three HBU.out (by omega)⟩
      | false =>
        have hr := hid (HNX.out rfl)
        go_wp2_with (go_at_call 72; refine (ucdWhole rf rt rv _).mono ?_; rintro e wu ⟨rfl, hbu⟩; have HBU := hid (hbel.out.trans ((HBW.out.trans (hbu.mono HBW.out.size)).mono hbel.out.size)); have HRU := hid (HRA.out.below hbu HRA.out.lt); have HTU := hid (HTA.out.below hbu HTA.out.lt); clear hbu)
        go_roundw
        case rel => exact ⟨k + 1, by omega, by go_num, HTU.out, HRU.out, HBU.out, hr.out⟩
        case measure => simp [intOf]; omega
    · obtain rfl : k = n := by omega
      have hr := hid (HN.out hall.out)
      have z0 := hbr.out.ice 0
      have z1 := hbr.out.ice 1
      have z2 := hbr.out.ice 2
      have w0 := hbr.out.cell 0
      have w1 := hbr.out.cell 1
      have w2 := hbr.out.cell 2
      simp only [List.getElem?_cons_zero, List.getElem?_cons_succ] at w0 w1 w2
      have HB3 := hid (below_three (B := w.heap.size + 1) (a := .int .i64 0) (b := .int .i64 0) (c := .int .i64 0) hbel.out (by omega))
      have HR3 := hid (hbr.out.three (.int .i64 0) (.int .i64 0) (.int .i64 0))
      go_wp2_with (fail)
      refine bodyPost_ret (results_two rfl rfl (loadC3 (HR3.out.alloc _))) rfl ⟨by rw [hr.out]; rfl, HB3.out.alloc HB3.out.size _⟩
end Go.Proofs.Ytildhebaikeknaa

/-! Ucd3 -/
namespace Go.Proofs.Ytildhebaikeknaa
open Go.RowKit

/-- the first entry with a scalar, and whether there is one -/
def fndM (c : Int) : List Mp → Mp × Bool
  | [] => (noMp, false)
  | r :: l => if r.f == c then (r, true) else fndM c l
theorem fndM_drop {c : Int} : ∀ {l : List Mp} {k : Nat}, k ≤ l.length → (∀ i, i < k → ((l.getD i noMp).f == c) = false) → fndM c l = fndM c (l.drop k)
  | _, 0, _, _ => rfl
  | [], k + 1, h, _ => by simp at h
  | r :: l, k + 1, h, ha => by
    have h0 := ha 0 (by omega)
    simp only [List.getD_cons_zero] at h0
    rw [fndM, h0, List.drop_succ_cons]
    exact fndM_drop (by simpa using h) fun i hi => by simpa using ha (i + 1) (by omega)
theorem fndM_hit {c : Int} {l : List Mp} {k : Nat} (h : k < l.length) (ha : ∀ i, i < k → ((l.getD i noMp).f == c) = false) (hk : ((l.getD k noMp).f == c) = true) : fndM c l = (l.getD k noMp, true) := by
  rw [fndM_drop (by omega) ha, List.drop_eq_getElem_cons h, fndM]
  have e : l.getD k noMp = l[k] := by rw [List.getD_eq_getElem?_getD, List.getElem?_eq_getElem h]; rfl
  rw [e] at hk ⊢
  rw [hk]
  rfl
theorem fndM_none {c : Int} {l : List Mp} (ha : ∀ i, i < l.length → ((l.getD i noMp).f == c) = false) : fndM c l = (noMp, false) := by
  rw [fndM_drop (Nat.le_refl _) ha, List.drop_length]
  rfl

theorem sl_nil (k : IntKind) (w : World) : Sl k w (.slice none 0 0) [] := ⟨none, 0, rfl, Nat.le_refl _, by unfold maxLen; omega, .inl rfl⟩
theorem Box.pair {t : TypeId} {a b : Value} {B : Nat} {w : World} (h : Box t [a, b] B w) (x y : Value) : Box t [x, y] B ((w.setCell ⟨B, 0, none⟩ x).setCell ⟨B, 1, none⟩ y) :=
  (h.set 0 x).set 1 y
theorem below_pair {base B : Nat} {a b : Value} {w0 w : World} (h : Below base w0 w) (hB : base ≤ B) : Below base w0 ((w.setCell ⟨B, 0, none⟩ a).setCell ⟨B, 1, none⟩ b) :=
  (h.setCell hB _).setCell hB _
end Go.Proofs.Ytildhebaikeknaa
