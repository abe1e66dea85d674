/- Several texts in one: Res6, Later, Ucd2, Ucd3, Ref7, Ucd4. -/
import Derived.Test.YtidjjaginindoaaGreatPk1
import Derived.BigQuiet
import Derived.Test.YtidjjaginindoaaGreatPk3
import Derived.Test.YtidjjaginindoaaGreatPk2
/-! Res6 -/
namespace Go.Proofs.YtidjjaginindoaaGreat
open Go.RowKit

theorem asAddr_ptr6 (P : Program) (w : World) (a : Addr) : (asAddr (.pointer (some a))).run P w = .ok a w := by simp [asAddr]
theorem results_one {P : Program} {fn : Func} {p : Tmp} {ty : TypeId} (h : fn.results = #[.cell p ty]) {tmps : Array Value} {B : Nat} (hp : tmps.getD p undef = .pointer (some ⟨B, 0, none⟩)) {w : World} {y : Value} (hl : (loadVar ty ⟨B, 0, none⟩).run P w = .ok y w) :
    (results fn tmps).run P w = .ok y w := by
  have e : (results fn tmps).run P w = ((asAddr (tmps.getD p undef)).run P w).andThen fun a w₁ => (loadVar ty a).run P w₁ := by
    simp only [results, h]
    simp [Sem.run_bind, Result.andThen]
  rw [e, hp, asAddr_ptr6]
  simp only [Result.andThen]
  rw [hl]
theorem results_two {P : Program} {fn : Func} {p u : Tmp} {ty : TypeId} (h : fn.results = #[.cell p ty, .tmp u]) {tmps : Array Value} {B : Nat} (hp : tmps.getD p undef = .pointer (some ⟨B, 0, none⟩)) {w : World} {y : Value} (hl : (loadVar ty ⟨B, 0, none⟩).run P w = .ok y w) :
    (results fn tmps).run P w = .ok (.tuple #[y, tmps.getD u undef]) w := by
  have e : (results fn tmps).run P w = ((asAddr (tmps.getD p undef)).run P w).andThen fun a w₁ => ((loadVar ty a).run P w₁).andThen fun y w₂ => .ok (.tuple #[y, tmps.getD u undef]) w₂ := by
    simp only [results, h]
    simp [Sem.run_bind, Result.andThen]
  rw [e, hp, asAddr_ptr6]
  simp only [Result.andThen]
  rw [hl]
theorem loadC3 {a b c : Value} {B : Nat} {w : World} (h : Box 66 [a, b, c] B w) : (loadVar 66 ⟨B, 0, none⟩).run Tryz.prog w = .ok (.agg #[a, b, c]) w := by
  have k0 := h.cell 0
  have k1 := h.cell 1
  have k2 := h.cell 2
  simp only [List.getElem?_cons_zero, List.getElem?_cons_succ] at k0 k1 k2
  simp [go_sem, k0, k1, k2]
theorem loadC2 {a b : Value} {B : Nat} {w : World} (h : Box 112 [a, b] B w) : (loadVar 112 ⟨B, 0, none⟩).run Tryz.prog w = .ok (.agg #[a, b]) w := by
  have k0 := h.cell 0
  have k1 := h.cell 1
  simp only [List.getElem?_cons_zero, List.getElem?_cons_succ] at k0 k1
  simp [go_sem, k0, k1]
theorem loadMp {a b : Value} {B : Nat} {w : World} (h : Box 97 [a, b] B w) : (loadVar 97 ⟨B, 0, none⟩).run Tryz.prog w = .ok (.agg #[a, b]) w := by
  have k0 := h.cell 0
  have k1 := h.cell 1
  simp only [List.getElem?_cons_zero, List.getElem?_cons_succ] at k0 k1
  simp [go_sem, k0, k1]
theorem loadT1 {a b : Value} {B : Nat} {w : World} (h : Box 71 [a, b] B w) : (loadVar 71 ⟨B, 0, none⟩).run Tryz.prog w = .ok (.agg #[a, b]) w := by
  have k0 := h.cell 0
  have k1 := h.cell 1
  simp only [List.getElem?_cons_zero, List.getElem?_cons_succ] at k0 k1
  simp [go_sem, k0, k1]
theorem loadT2 {a b : Value} {B : Nat} {w : World} (h : Box 143 [a, b] B w) : (loadVar 143 ⟨B, 0, none⟩).run Tryz.prog w = .ok (.agg #[a, b]) w := by
  have k0 := h.cell 0
  have k1 := h.cell 1
  simp only [List.getElem?_cons_zero, List.getElem?_cons_succ] at k0 k1
  simp [go_sem, k0, k1]
theorem loadT3 {a b : Value} {B : Nat} {w : World} (h : Box 138 [a, b] B w) : (loadVar 138 ⟨B, 0, none⟩).run Tryz.prog w = .ok (.agg #[a, b]) w := by
  have k0 := h.cell 0
  have k1 := h.cell 1
  simp only [List.getElem?_cons_zero, List.getElem?_cons_succ] at k0 k1
  simp [go_sem, k0, k1]
theorem eq_c2 (b c p q : Int) (w : World) : (binOp .eql 112 (.agg #[.int .i64 b, .int .i64 c]) (.agg #[.int .i64 p, .int .i64 q])).run Tryz.prog w = .ok (.bool (b == p && c == q)) w := by
  have u3 := Tryz.underlying3
  have a3 := Tryz.isAgg3
  have z3 := Tryz.sizeOf3
  rw [run_eql_struct, show (10000 : Nat) = 9999 + 1 from rfl]
  unfold Op.equalIn
  simp only [Sem.run_bind, run_underlying Tryz.underlying112, Result.andThen_ok]
  go_simp
  rw [show List.range' 0 2 = [0, 1] from rfl]
  simp only [List.forIn_cons, List.forIn_nil]
  go_simp
  by_cases h1 : b = p <;> by_cases h2 : c = q <;> simp [h1, h2, go_sem]
end Go.Proofs.YtidjjaginindoaaGreat

/-! Later -/
namespace Go.Proofs.YtidjjaginindoaaGreat
open Go.RowKit

/-- a world in which all that W holds is as it was -/
structure Later (W : World) where
  w : World
  below : Below W.heap.size W w
instance (W : World) : Nonempty (Later W) := ⟨⟨W, Below.refl _ _⟩⟩
theorem region_later {P : Program} {id : Nat} {Q : Exit → Act → World → Prop} {a : Act} {w : World} {l : List Oper} (hm : P.follows .mixedOrders = true) (hB : Region.lexB .any l.toArray = true)
    (h : wpQuiet P l.toArray (fun w' => ∃ u : Later w, w' = u.w) (fun a' => ∀ w', (∃ u : Later w, w' = u.w) → Q .normal a' w') l a) : (Code.region id l.toArray true).wp P Q a w :=
  wp_region_quiet (C := fun w' => ∃ u : Later w, w' = u.w) hm hB ⟨⟨w.drew, (Below.refl _ _).drew⟩, rfl⟩ (by simpa using h)
theorem later_call {P : Program} {f : FuncId} {args : Array Value} {W : World} {u : Later W} {v : Value} (h : Calls P f args u.w fun e w'' => e = .returned v ∧ Below u.w.heap.size u.w w'') :
    Calls P f args u.w fun e w'' => e = .returned v ∧ ∃ u' : Later W, w'' = u'.w :=
  h.mono fun _ w'' ⟨he, hb⟩ => ⟨he, ⟨w'', u.below.trans (hb.mono u.below.size)⟩, rfl⟩
theorem Later.cell {W : World} (u : Later W) {p : Addr} {v : Value} (h : W.cell? p = some v) : u.w.cell? p = some v := (u.below.cell (World.block_lt_of_cell? W _ h)).trans h
end Go.Proofs.YtidjjaginindoaaGreat

/-! Ucd2 -/
namespace Go.Proofs.YtidjjaginindoaaGreat
open Go.RowKit

/-- the first of a list that has a property, and whether there is one -/
def fndS (p : Rg → Bool) : List Rg → Rg × Bool
  | [] => (noRg, false)
  | r :: l => if p r then (r, true) else fndS p l
theorem fndS_drop {p : Rg → Bool} : ∀ {l : List Rg} {k : Nat}, k ≤ l.length → (∀ i, i < k → p (l.getD i noRg) = false) → fndS p l = fndS p (l.drop k)
  | _, 0, _, _ => rfl
  | [], k + 1, h, _ => by simp at h
  | r :: l, k + 1, h, ha => by
    have h0 := ha 0 (by omega)
    simp only [List.getD_cons_zero] at h0
    rw [fndS, h0, List.drop_succ_cons]
    exact fndS_drop (by simpa using h) fun i hi => by simpa using ha (i + 1) (by omega)
theorem fndS_hit {p : Rg → Bool} {l : List Rg} {k : Nat} (h : k < l.length) (ha : ∀ i, i < k → p (l.getD i noRg) = false) (hk : p (l.getD k noRg) = true) : fndS p l = (l.getD k noRg, true) := by
  rw [fndS_drop (by omega) ha, List.drop_eq_getElem_cons h, fndS]
  have e : l.getD k noRg = l[k] := by rw [List.getD_eq_getElem?_getD, List.getElem?_eq_getElem h]; rfl
  rw [e] at hk ⊢
  rw [hk]
  rfl
theorem fndS_none {p : Rg → Bool} {l : List Rg} (ha : ∀ i, i < l.length → p (l.getD i noRg) = false) : fndS p l = (noRg, false) := by
  rw [fndS_drop (Nat.le_refl _) ha, List.drop_length]
  rfl

theorem box_last (w : World) (A : Obj) (t : TypeId) (cs : List Value) : Box t cs (w.heap.size + 1) ((w.alloc A).alloc (.cells cs.toArray t)) := by
  have := Box.made (w.alloc A) t cs
  simpa using this
theorem Box.three {t : TypeId} {a b c : Value} {B : Nat} {w : World} (h : Box t [a, b, c] B w) (x y z : Value) : Box t [x, y, z] B (((w.setCell ⟨B, 0, none⟩ x).setCell ⟨B, 1, none⟩ y).setCell ⟨B, 2, none⟩ z) :=
  ((h.set 0 x).set 1 y).set 2 z
theorem below_three {base B : Nat} {a b c : Value} {w0 w : World} (h : Below base w0 w) (hB : base ≤ B) : Below base w0 (((w.setCell ⟨B, 0, none⟩ a).setCell ⟨B, 1, none⟩ b).setCell ⟨B, 2, none⟩ c) :=
  ((h.setCell hB _).setCell hB _).setCell hB _
theorem ucdWhole (a b c : Int) (w : World) : Calls Tryz.prog 83 #[.agg #[.int .i64 a, .int .i64 b, .int .i64 c]] w fun e w' => e = .returned (.int .i64 a) ∧ Below w.heap.size w w' := by
  go_enter Tryz.func83, Tryz.ntmps83
  go_wp2_with (fail)
  go_ret
  exact ⟨rfl, by (repeat (first | exact Below.refl _ _ | exact below_drewN _ | refine Below.drew ?_ | refine Below.alloc ?_ (by simp) _ | refine Below.setCell ?_ (by simp) _ | refine below_drewN' ?_ _))⟩
theorem ucdParts (a b c : Int) (w : World) : Calls Tryz.prog 145 #[.agg #[.int .i64 a, .int .i64 b, .int .i64 c]] w fun e w' => e = .returned (.agg #[.int .i64 b, .int .i64 c]) ∧ Below w.heap.size w w' := by
  go_enter Tryz.func145, Tryz.ntmps145
  go_wp2_with (fail)
  refine bodyPost_ret (results_one rfl rfl (loadC2 (box_last _ _ _ _))) rfl ⟨rfl, by (repeat (first | exact Below.refl _ _ | exact below_drewN _ | refine Below.drew ?_ | refine Below.alloc ?_ (by simp) _ | refine Below.setCell ?_ (by simp) _ | refine below_drewN' ?_ _))⟩

set_option maxHeartbeats 2000000 in
theorem ucdFind1 (v : Value) (l : List Rg) (c : Int) (w : World) (h : Sg w v l) :
    Calls Tryz.prog 54 #[.agg #[v, .func (.func 83) #[] #[]], .int .i64 c] w fun e w' =>
      e = .returned (.tuple #[.agg #[.int .i64 (fndS (fun r => r.f == c) l).1.f, .int .i64 (fndS (fun r => r.f == c) l).1.t, .int .i64 (fndS (fun r => r.f == c) l).1.v], .bool (fndS (fun r => r.f == c) l).2]) ∧ Below w.heap.size w w' := by
  have ml := h.len
  obtain ⟨a1, cap1, rfl, q1, -, h1⟩ := h
  obtain ⟨n, hn⟩ : ∃ n, n = l.length := ⟨_, rfl⟩
  obtain ⟨R, hR⟩ : ∃ R, R = fndS (fun r => r.f == c) l := ⟨_, rfl⟩
  have hH : ∀ k, k < n → (∀ i, i < k → ((l.getD i noRg).f == c) = false) → ((l.getD k noRg).f == c) = true → R = (l.getD k noRg, true) := fun k hk ha hh => hR.trans (fndS_hit (p := fun r => r.f == c) (by omega) ha hh)
  have hN : (∀ i, i < n → ((l.getD i noRg).f == c) = false) → R = (noRg, false) := fun ha => hR.trans (fndS_none (p := fun r => r.f == c) (by rw [← hn]; exact ha))
  rw [← hR]
  have HH := hid hH
  have HN := hid hN
  have H1 := hid h1
  rw [← hn] at ml q1 H1 ⊢
  clear hH hN h1 hn hR
  go_enter Tryz.func54, Tryz.ntmps54
  go_wp2_with (fail)
  go_loopw [12] (fun iv wr => ∃ k : Nat, k ≤ n ∧ iv = .int .i64 k ∧ Hid (Box 71 [.slice a1 n cap1, .func (.func 83) #[] #[]] w.heap.size wr) ∧ Hid (Box 66 [.int .i64 0, .int .i64 0, .int .i64 0] (w.heap.size + 1) wr) ∧ Hid (Below w.heap.size w wr) ∧ Hid (∀ i, i < k → ((l.getD i noRg).f == c) = false)) (fun iv _ => n - (intOf iv).toNat)
  case atStart => exact ⟨0, by omega, rfl, (Box.made w 71 _).alloc _, box_last _ _ _ _, by (repeat (first | exact Below.refl _ _ | exact below_drewN _ | refine Below.drew ?_ | refine Below.alloc ?_ (by simp) _ | refine Below.setCell ?_ (by simp) _ | refine below_drewN' ?_ _)), fun i hi => absurd hi (by omega)⟩
  case round =>
    obtain ⟨k, hk, rfl, hbt, hbr, hbel, hall⟩ := hrel
    have hsz := hbr.out.lt
    by_cases hlt : k < n
    · rcases H1.out with hc | ⟨b1, o1, rfl, hb1, c1⟩
      · omega
      have hb1' := hb1 (by omega)
      obtain ⟨d1, d2, d3⟩ := c1 k hlt
      have d1 := (hbel.out.cell (p := ⟨b1, o1 + k * 3, none⟩) hb1').trans d1
      have d2 := (hbel.out.cell (p := ⟨b1, o1 + k * 3 + 1, none⟩) hb1').trans d2
      have d3 := (hbel.out.cell (p := ⟨b1, o1 + k * 3 + 2, none⟩) hb1').trans d3
      have hh := hid (HH.out k hlt hall.out)
      have HNX := hid (show ((l.getD k noRg).f == c) = false → ∀ i, i < k + 1 → ((l.getD i noRg).f == c) = false from fun he i hi => by
        rcases Nat.lt_or_ge i k with h | h
        · exact hall.out i h
        · obtain rfl : i = k := by omega
          exact he)
      clear c1
      generalize l.getD k noRg = r at d1 d2 d3 hh HNX
      obtain ⟨rf, rt, rv⟩ := r
      simp only at d1 d2 d3 hh HNX
      obtain ⟨b, hb⟩ : ∃ b, b = (rf == c) := ⟨_, rfl⟩
      rw [← hb] at hh HNX
      replace hb := hb.symm
      have HBW := hid (show Below wr.heap.size wr (wr.alloc (.cells #[.int .i64 rf, .int .i64 rt, .int .i64 rv] 66)) by (repeat (first | exact Below.refl _ _ | exact below_drewN _ | refine Below.drew ?_ | refine Below.alloc ?_ (by simp) _ | refine Below.setCell ?_ (by simp) _ | refine below_drewN' ?_ _)))
      have HNW := hid (Box.made wr 66 [.int .i64 rf, .int .i64 rt, .int .i64 rv])
      have HRA := hid (hbr.out.alloc (.cells #[.int .i64 rf, .int .i64 rt, .int .i64 rv] 66))
      have HTA := hid (hbt.out.alloc (.cells #[.int .i64 rf, .int .i64 rt, .int .i64 rv] 66))
      have x1 := HTA.out.cell 1
      simp only [List.getElem?_cons_zero, List.getElem?_cons_succ] at x1
      cases b with
      | true =>
        have hr := hid (hh.out rfl)
        go_wp2_with (go_at_call 83; refine (ucdWhole rf rt rv _).mono ?_; rintro e wu ⟨rfl, hbu⟩; have HBU := hid (hbel.out.trans ((HBW.out.trans (hbu.mono HBW.out.size)).mono hbel.out.size)); have HRU := hid (HRA.out.below hbu HRA.out.lt); have HNU := hid (HNW.out.below hbu HNW.out.lt); clear hbu; have y2 := HNU.out.cell 0; have y3 := HNU.out.cell 1; have y4 := HNU.out.cell 2; have z0 := HRU.out.ice 0; have z1 := HRU.out.ice 1; have z2 := HRU.out.ice 2; have w0 := HRU.out.cell 0; have w1 := HRU.out.cell 1; have w2 := HRU.out.cell 2; simp only [List.getElem?_cons_zero, List.getElem?_cons_succ] at w0 w1 w2 y2 y3 y4)
        refine bodyPost_ret (results_two rfl rfl (loadC3 (HRU.out.three _ _ _))) rfl ⟨by rw [hr.out]; rfl, below_three HBU.out (by omega)⟩
      | false =>
        have hr := hid (HNX.out rfl)
        go_wp2_with (go_at_call 83; refine (ucdWhole rf rt rv _).mono ?_; rintro e wu ⟨rfl, hbu⟩; have HBU := hid (hbel.out.trans ((HBW.out.trans (hbu.mono HBW.out.size)).mono hbel.out.size)); have HRU := hid (HRA.out.below hbu HRA.out.lt); have HTU := hid (HTA.out.below hbu HTA.out.lt); clear hbu)
        go_roundw
        case rel => exact ⟨k + 1, by omega, by go_num, HTU.out, HRU.out, HBU.out, hr.out⟩
        case measure => simp [intOf]; omega
    · obtain rfl : k = n := by omega
      have hr := hid (HN.out hall.out)
      have z0 := hbr.out.ice 0
      have z1 := hbr.out.ice 1
      have z2 := hbr.out.ice 2
      have w0 := hbr.out.cell 0
      have w1 := hbr.out.cell 1
      have w2 := hbr.out.cell 2
      simp only [List.getElem?_cons_zero, List.getElem?_cons_succ] at w0 w1 w2
      have HB3 := hid (below_three (B := w.heap.size + 1) (a := .int .i64 0) (b := .int .i64 0) (c := .int .i64 0) hbel.out (by omega))
      have HR3 := hid (hbr.out.three (.int .i64 0) (.int .i64 0) (.int .i64 0))
      go_wp2_with (fail)
      refine bodyPost_ret (results_two rfl rfl (loadC3 (HR3.out.alloc _))) rfl ⟨by rw [hr.out]; rfl, HB3.out.alloc HB3.out.size _⟩
end Go.Proofs.YtidjjaginindoaaGreat

/-! Ucd3 -/
namespace Go.Proofs.YtidjjaginindoaaGreat
open Go.RowKit

/-- the first entry with a scalar, and whether there is one -/
def fndM (c : Int) : List Mp → Mp × Bool
  | [] => (noMp, false)
  | r :: l => if r.f == c then (r, true) else fndM c l
theorem fndM_drop {c : Int} : ∀ {l : List Mp} {k : Nat}, k ≤ l.length → (∀ i, i < k → ((l.getD i noMp).f == c) = false) → fndM c l = fndM c (l.drop k)
  | _, 0, _, _ => rfl
  | [], k + 1, h, _ => by simp at h
  | r :: l, k + 1, h, ha => by
    have h0 := ha 0 (by omega)
    simp only [List.getD_cons_zero] at h0
    rw [fndM, h0, List.drop_succ_cons]
    exact fndM_drop (by simpa using h) fun i hi => by simpa using ha (i + 1) (by omega)
theorem fndM_hit {c : Int} {l : List Mp} {k : Nat} (h : k < l.length) (ha : ∀ i, i < k → ((l.getD i noMp).f == c) = false) (hk : ((l.getD k noMp).f == c) = true) : fndM c l = (l.getD k noMp, true) := by
  rw [fndM_drop (by omega) ha, List.drop_eq_getElem_cons h, fndM]
  have e : l.getD k noMp = l[k] := by rw [List.getD_eq_getElem?_getD, List.getElem?_eq_getElem h]; rfl
  rw [e] at hk ⊢
  rw [hk]
  rfl
theorem fndM_none {c : Int} {l : List Mp} (ha : ∀ i, i < l.length → ((l.getD i noMp).f == c) = false) : fndM c l = (noMp, false) := by
  rw [fndM_drop (Nat.le_refl _) ha, List.drop_length]
  rfl

theorem sl_nil (k : IntKind) (w : World) : Sl k w (.slice none 0 0) [] := ⟨none, 0, rfl, Nat.le_refl _, by unfold maxLen; omega, .inl rfl⟩
theorem Box.pair {t : TypeId} {a b : Value} {B : Nat} {w : World} (h : Box t [a, b] B w) (x y : Value) : Box t [x, y] B ((w.setCell ⟨B, 0, none⟩ x).setCell ⟨B, 1, none⟩ y) :=
  (h.set 0 x).set 1 y
theorem below_pair {base B : Nat} {a b : Value} {w0 w : World} (h : Below base w0 w) (hB : base ≤ B) : Below base w0 ((w.setCell ⟨B, 0, none⟩ a).setCell ⟨B, 1, none⟩ b) :=
  (h.setCell hB _).setCell hB _
theorem ucdFrom (a : Int) (u : Value) (w : World) : Calls Tryz.prog 143 #[.agg #[.int .i64 a, u]] w fun e w' => e = .returned (.int .i64 a) ∧ Below w.heap.size w w' := by
  go_enter Tryz.func143, Tryz.ntmps143
  go_wp2_with (fail)
  go_ret
  exact ⟨rfl, by (repeat (first | exact Below.refl _ _ | exact below_drewN _ | refine Below.drew ?_ | refine Below.alloc ?_ (by simp) _ | refine Below.setCell ?_ (by simp) _ | refine below_drewN' ?_ _))⟩

set_option maxHeartbeats 2000000 in
theorem ucdFindM (v : Value) (l : List Mp) (c : Int) (w : World) (h : Sm w v l) :
    Calls Tryz.prog 138 #[.agg #[v, .func (.func 143) #[] #[]], .int .i64 c] w fun e w' =>
      ∃ x, e = .returned (.tuple #[.agg #[.int .i64 (fndM c l).1.f, x], .bool (fndM c l).2]) ∧ Sl .i64 w' x (fndM c l).1.t ∧ Below w.heap.size w w' := by
  have ml := h.len
  obtain ⟨a1, cap1, rfl, q1, -, h1⟩ := h
  obtain ⟨n, hn⟩ : ∃ n, n = l.length := ⟨_, rfl⟩
  obtain ⟨R, hR⟩ : ∃ R, R = fndM c l := ⟨_, rfl⟩
  have hH : ∀ k, k < n → (∀ i, i < k → ((l.getD i noMp).f == c) = false) → ((l.getD k noMp).f == c) = true → R = (l.getD k noMp, true) := fun k hk ha hh => hR.trans (fndM_hit (by omega) ha hh)
  have hN : (∀ i, i < n → ((l.getD i noMp).f == c) = false) → R = (noMp, false) := fun ha => hR.trans (fndM_none (by rw [← hn]; exact ha))
  rw [← hR]
  have HH := hid hH
  have HN := hid hN
  have H1 := hid h1
  rw [← hn] at ml q1 H1 ⊢
  clear hH hN h1 hn hR
  go_enter Tryz.func138, Tryz.ntmps138
  go_wp2_with (fail)
  go_loopw [12] (fun iv wr => ∃ k : Nat, k ≤ n ∧ iv = .int .i64 k ∧ Hid (Box 138 [.slice a1 n cap1, .func (.func 143) #[] #[]] w.heap.size wr) ∧ Hid (Box 97 [.int .i64 0, .slice none 0 0] (w.heap.size + 1) wr) ∧ Hid (Below w.heap.size w wr) ∧ Hid (∀ i, i < k → ((l.getD i noMp).f == c) = false)) (fun iv _ => n - (intOf iv).toNat)
  case atStart => exact ⟨0, by omega, rfl, (Box.made w 138 _).alloc _, box_last _ _ _ _, by (repeat (first | exact Below.refl _ _ | exact below_drewN _ | refine Below.drew ?_ | refine Below.alloc ?_ (by simp) _ | refine Below.setCell ?_ (by simp) _ | refine below_drewN' ?_ _)), fun i hi => absurd hi (by omega)⟩
  case round =>
    obtain ⟨k, hk, rfl, hbt, hbr, hbel, hall⟩ := hrel
    have hsz := hbr.out.lt
    by_cases hlt : k < n
    · rcases H1.out with hc | ⟨b1, o1, rfl, hb1, c1⟩
      · omega
      have hb1' := hb1 (by omega)
      obtain ⟨d1, ux, d2, d3⟩ := c1 k hlt
      have d1 := (hbel.out.cell (p := ⟨b1, o1 + k * 2, none⟩) hb1').trans d1
      have d2 := (hbel.out.cell (p := ⟨b1, o1 + k * 2 + 1, none⟩) hb1').trans d2
      have HD := hid d3
      clear d3
      have hh := hid (HH.out k hlt hall.out)
      have HNX := hid (show ((l.getD k noMp).f == c) = false → ∀ i, i < k + 1 → ((l.getD i noMp).f == c) = false from fun he i hi => by
        rcases Nat.lt_or_ge i k with h | h
        · exact hall.out i h
        · obtain rfl : i = k := by omega
          exact he)
      clear c1
      generalize l.getD k noMp = r at d1 d2 HD hh HNX
      obtain ⟨rf, rt⟩ := r
      simp only at d1 d2 HD hh HNX
      obtain ⟨au, cu, hux⟩ := HD.out.form
      obtain ⟨nr, hnr⟩ : ∃ nr, nr = rt.length := ⟨_, rfl⟩
      rw [← hnr] at hux
      subst hux
      clear hnr
      obtain ⟨b, hb⟩ : ∃ b, b = (rf == c) := ⟨_, rfl⟩
      rw [← hb] at hh HNX
      replace hb := hb.symm
      have HBW := hid (show Below wr.heap.size wr (wr.alloc (.cells #[.int .i64 rf, (.slice au nr cu)] 97)) by (repeat (first | exact Below.refl _ _ | exact below_drewN _ | refine Below.drew ?_ | refine Below.alloc ?_ (by simp) _ | refine Below.setCell ?_ (by simp) _ | refine below_drewN' ?_ _)))
      have HNW := hid (Box.made wr 97 [.int .i64 rf, (.slice au nr cu)])
      have HRA := hid (hbr.out.alloc (.cells #[.int .i64 rf, (.slice au nr cu)] 97))
      have HTA := hid (hbt.out.alloc (.cells #[.int .i64 rf, (.slice au nr cu)] 97))
      have x1 := HTA.out.cell 1
      simp only [List.getElem?_cons_zero, List.getElem?_cons_succ] at x1
      cases b with
      | true =>
        have hr := hid (hh.out rfl)
        go_wp2_with (go_at_call 143; refine (ucdFrom rf (.slice au nr cu) _).mono ?_; rintro e wu ⟨rfl, hbu⟩; have HBU := hid (hbel.out.trans ((HBW.out.trans (hbu.mono HBW.out.size)).mono hbel.out.size)); have HRU := hid (HRA.out.below hbu HRA.out.lt); have HNU := hid (HNW.out.below hbu HNW.out.lt); clear hbu; have y2 := HNU.out.cell 0; have y3 := HNU.out.cell 1; have z0 := HRU.out.ice 0; have z1 := HRU.out.ice 1; have w0 := HRU.out.cell 0; have w1 := HRU.out.cell 1; simp only [List.getElem?_cons_zero, List.getElem?_cons_succ] at w0 w1 y2 y3)
        refine bodyPost_ret (results_two rfl rfl (loadMp (HRU.out.pair _ _))) rfl ⟨.slice au nr cu, by rw [hr.out]; rfl, by rw [hr.out]; exact HD.out.below (below_pair HBU.out (by omega)), below_pair HBU.out (by omega)⟩
      | false =>
        have hr := hid (HNX.out rfl)
        go_wp2_with (go_at_call 143; refine (ucdFrom rf (.slice au nr cu) _).mono ?_; rintro e wu ⟨rfl, hbu⟩; have HBU := hid (hbel.out.trans ((HBW.out.trans (hbu.mono HBW.out.size)).mono hbel.out.size)); have HRU := hid (HRA.out.below hbu HRA.out.lt); have HTU := hid (HTA.out.below hbu HTA.out.lt); clear hbu)
        go_roundw
        case rel => exact ⟨k + 1, by omega, by go_num, HTU.out, HRU.out, HBU.out, hr.out⟩
        case measure => simp [intOf]; omega
    · obtain rfl : k = n := by omega
      have hr := hid (HN.out hall.out)
      have z0 := hbr.out.ice 0
      have z1 := hbr.out.ice 1
      have w0 := hbr.out.cell 0
      have w1 := hbr.out.cell 1
      simp only [List.getElem?_cons_zero, List.getElem?_cons_succ] at w0 w1
      have HB3 := hid (below_pair (B := w.heap.size + 1) (a := .int .i64 0) (b := .slice none 0 0) hbel.out (by omega))
      have HR3 := hid (hbr.out.pair (.int .i64 0) (.slice none 0 0))
      go_wp2_with (fail)
      refine bodyPost_ret (results_two rfl rfl (loadMp (HR3.out.alloc _))) rfl ⟨_, by rw [hr.out]; rfl, by rw [hr.out]; exact sl_nil _ _, HB3.out.alloc HB3.out.size _⟩
end Go.Proofs.YtidjjaginindoaaGreat

/-! Ref7 -/
namespace Go.Proofs.YtidjjaginindoaaGreat
open Go.RowKit

set_option maxHeartbeats 2000000 in
theorem refSplit7 (c : Int) (w : World) (h0 : -9223372036854775808 ≤ c) (h1 : c ≤ 9223372036854775807) : Calls Tryz.prog 122 #[.int .i64 c] w fun e w' => ∃ x, e = .returned x ∧ Sl .i64 w' x (splitS c) ∧ Below w.heap.size w w' := by
  by_cases hin : 44032 ≤ c ∧ c ≤ 55203
  · obtain ⟨n, rfl⟩ : ∃ n : Nat, c = 44032 + (n : Int) := ⟨(c - 44032).toNat, by omega⟩
    have hn : n ≤ 11171 := by omega
    have HR := hid (splitS_in hn)
    have e1 : (44032 + (n : Int)) - 44032 = (n : Int) := by omega
    have HB := hid (show inB (n : Int) 0 11171 = true from decide_eq_true ⟨by omega, by omega⟩)
    clear hin
    by_cases hm : n % 28 = 0
    · have hm2 : ¬ (0 : Int) < (n : Int) % 28 := by omega
      have HP := hid (show splitS (44032 + (n : Int)) = [4352 + (n : Int) / 588, 4449 + (n : Int) % 588 / 28] by rw [HR.out]; unfold partsN; rw [if_pos hm])
      clear hm
      go_enter Tryz.func122, Tryz.ntmps122
      go_wp2_with (go_at_call 110; refine (refIn6 (n : Int) 0 11171 _).mono ?_; rw [HB.out]; rintro e w1 ⟨rfl, rfl⟩)
      go_ret
      exact ⟨_, rfl, by rw [HP.out]; exact lit_sl rfl rfl rfl (by simp), by (repeat (first | exact Below.refl _ _ | exact below_drewN _ | refine Below.drew ?_ | refine Below.alloc ?_ (by simp) _ | refine Below.setCell ?_ (by simp) _ | refine below_drewN' ?_ _))⟩
    · have hm2 : (0 : Int) < (n : Int) % 28 := by omega
      have HP := hid (show splitS (44032 + (n : Int)) = [4352 + (n : Int) / 588, 4449 + (n : Int) % 588 / 28] ++ [4519 + (n : Int) % 28] by rw [HR.out]; unfold partsN; rw [if_neg hm]; rfl)
      clear hm
      go_enter Tryz.func122, Tryz.ntmps122
      go_wp2_with (first
        | (go_at_call 110; refine (refIn6 (n : Int) 0 11171 _).mono ?_; rw [HB.out]; rintro e w1 ⟨rfl, rfl⟩)
        | (at_builtin; go_loud (refine wpList_app _ rfl _ _ 22 rfl .i64 w.heap.size 3 8 Tryz.underlying22 Tryz.infoI64 _ [4352 + (n : Int) / 588, 4449 + (n : Int) % 588 / 28] [4519 + (n : Int) % 28] rfl (Own.below (lit_own rfl (Nat.le_refl _) rfl rfl (by simp)) (by (repeat (first | exact Below.refl _ _ | exact below_drewN _ | refine Below.drew ?_ | refine Below.alloc ?_ (by simp) _ | refine Below.setCell ?_ (by simp) _ | refine below_drewN' ?_ _)))) _ rfl (one_sl (by first | simp | rfl)) (by unfold maxLen; first | omega | (simp; omega) | simp) (by first | omega | (simp; omega) | simp) (by first | omega | (simp; omega) | simp) ?_); intro v5 w5 ho5 hg5 hb5 hn5; clear hn5 hg5))
      go_ret
      exact ⟨_, rfl, by rw [HP.out]; exact ho5.sl, Below.trans (show Below w.heap.size w _ from by (repeat (first | exact Below.refl _ _ | exact below_drewN _ | refine Below.drew ?_ | refine Below.alloc ?_ (by simp) _ | refine Below.setCell ?_ (by simp) _ | refine below_drewN' ?_ _))) hb5⟩
  · have HR := hid (splitS_out hin)
    have HB := hid (show inB (wrap64 (c - 44032)) 0 11171 = false from decide_eq_false (by unfold wrap64; omega))
    clear hin
    go_enter Tryz.func122, Tryz.ntmps122
    go_wp2_with (go_at_call 110; refine (refIn6 (wrap64 (c - 44032)) 0 11171 _).mono ?_; rw [HB.out]; rintro e w1 ⟨rfl, rfl⟩)
    go_ret
    exact ⟨_, rfl, by rw [HR.out]; exact sl_nil _ _, Below.refl _ _⟩

set_option maxHeartbeats 2000000 in
theorem refJoin7 (a b : Int) (w : World) (h0 : -9223372036854775808 ≤ a ∧ a ≤ 9223372036854775807) (h1 : -9223372036854775808 ≤ b ∧ b ≤ 9223372036854775807) : Calls Tryz.prog 106 #[.int .i64 a, .int .i64 b] w fun e w' => e = .returned (.tuple #[.int .i64 (joinS a b).1, .bool (joinS a b).2]) ∧ w = w' := by
  obtain ⟨R, hR⟩ : ∃ R, R = joinS a b := ⟨_, rfl⟩
  rw [← hR]
  by_cases hA : 4352 ≤ a ∧ a ≤ 4370
  · obtain ⟨a0, a1⟩ := hA
    have H1 := hid (show inB a 4352 4370 = true from decide_eq_true ⟨a0, a1⟩)
    by_cases hB : 4449 ≤ b ∧ b ≤ 4469
    · obtain ⟨b0, b1⟩ := hB
      have H2 := hid (show inB b 4449 4469 = true from decide_eq_true ⟨b0, b1⟩)
      have HR := hid (show R = (44032 + ((a - 4352) * 21 + b - 4449) * 28, true) by rw [hR]; unfold joinS; rw [if_pos ⟨a0, a1, b0, b1⟩]; congr 1; omega)
      clear hR
      go_enter Tryz.func106, Tryz.ntmps106
      go_wp2_with (first
        | (go_at_call 110; with_reducible refine (refIn6 a 4352 4370 _).mono ?_; rw [H1.out]; rintro e w1 ⟨rfl, rfl⟩)
        | (go_at_call 110; with_reducible refine (refIn6 b 4449 4469 _).mono ?_; rw [H2.out]; rintro e w1 ⟨rfl, rfl⟩))
      go_ret2
      exact ⟨by rw [HR.out]; rfl, rfl⟩
    · have H2 := hid (show inB b 4449 4469 = false from decide_eq_false hB)
      have H3 := hid (show inB a 44032 55203 = false from decide_eq_false (by omega))
      have HR := hid (show R = (0, false) by rw [hR]; unfold joinS; rw [if_neg (by omega), if_neg (by omega)])
      clear hR hB
      go_enter Tryz.func106, Tryz.ntmps106
      go_wp2_with (first
        | (go_at_call 110; with_reducible refine (refIn6 a 4352 4370 _).mono ?_; rw [H1.out]; rintro e w1 ⟨rfl, rfl⟩)
        | (go_at_call 110; with_reducible refine (refIn6 b 4449 4469 _).mono ?_; rw [H2.out]; rintro e w1 ⟨rfl, rfl⟩)
        | (go_at_call 110; with_reducible refine (refIn6 a 44032 55203 _).mono ?_; rw [H3.out]; rintro e w1 ⟨rfl, rfl⟩))
      go_ret2
      exact ⟨by rw [HR.out]; rfl, rfl⟩
  · have H1 := hid (show inB a 4352 4370 = false from decide_eq_false hA)
    by_cases hC : 44032 ≤ a ∧ a ≤ 55203
    · have H3 := hid (show inB a 44032 55203 = true from decide_eq_true hC)
      obtain ⟨n, rfl⟩ : ∃ n : Nat, a = 44032 + (n : Int) := ⟨(a - 44032).toNat, by omega⟩
      have hn : n ≤ 11171 := by omega
      have e1 : (44032 + (n : Int)) - 44032 = (n : Int) := by omega
      obtain ⟨z, hz⟩ : ∃ z, z = ((n : Int) % 28 == 0) := ⟨_, rfl⟩
      have HZ := hid hz
      replace hz := hz.symm
      clear hA hC
      cases z with
      | false =>
        have HR := hid (show R = (0, false) by rw [hR]; unfold joinS; rw [if_neg (by omega), if_neg (by have h := HZ.out.symm; rw [beq_eq_false_iff_ne] at h; omega)])
        clear hR
        go_enter Tryz.func106, Tryz.ntmps106
        go_wp2_with (first
          | (go_at_call 110; with_reducible refine (refIn6 (44032 + (n : Int)) 4352 4370 _).mono ?_; rw [H1.out]; rintro e w1 ⟨rfl, rfl⟩)
          | (go_at_call 110; with_reducible refine (refIn6 (44032 + (n : Int)) 44032 55203 _).mono ?_; rw [H3.out]; rintro e w1 ⟨rfl, rfl⟩))
        go_ret2
        exact ⟨by rw [HR.out]; rfl, rfl⟩
      | true =>
        by_cases hB : 4520 ≤ b ∧ b ≤ 4546
        · obtain ⟨b0, b1⟩ := hB
          have H4 := hid (show inB b 4520 4546 = true from decide_eq_true ⟨b0, b1⟩)
          have HR := hid (show R = (44032 + (n : Int) + b - 4519, true) by rw [hR]; unfold joinS; rw [if_neg (by omega), if_pos (by have h := eq_of_beq HZ.out.symm; omega)])
          clear hR
          go_enter Tryz.func106, Tryz.ntmps106
          go_wp2_with (first
            | (go_at_call 110; with_reducible refine (refIn6 (44032 + (n : Int)) 4352 4370 _).mono ?_; rw [H1.out]; rintro e w1 ⟨rfl, rfl⟩)
            | (go_at_call 110; with_reducible refine (refIn6 (44032 + (n : Int)) 44032 55203 _).mono ?_; rw [H3.out]; rintro e w1 ⟨rfl, rfl⟩)
            | (go_at_call 110; with_reducible refine (refIn6 b 4520 4546 _).mono ?_; rw [H4.out]; rintro e w1 ⟨rfl, rfl⟩))
          go_ret2
          exact ⟨by rw [HR.out]; rfl, rfl⟩
        · have H4 := hid (show inB b 4520 4546 = false from decide_eq_false hB)
          have HR := hid (show R = (0, false) by rw [hR]; unfold joinS; rw [if_neg (by omega), if_neg (by omega)])
          clear hR hB
          go_enter Tryz.func106, Tryz.ntmps106
          go_wp2_with (first
            | (go_at_call 110; with_reducible refine (refIn6 (44032 + (n : Int)) 4352 4370 _).mono ?_; rw [H1.out]; rintro e w1 ⟨rfl, rfl⟩)
            | (go_at_call 110; with_reducible refine (refIn6 (44032 + (n : Int)) 44032 55203 _).mono ?_; rw [H3.out]; rintro e w1 ⟨rfl, rfl⟩)
            | (go_at_call 110; with_reducible refine (refIn6 b 4520 4546 _).mono ?_; rw [H4.out]; rintro e w1 ⟨rfl, rfl⟩))
          go_ret2
          exact ⟨by rw [HR.out]; rfl, rfl⟩
    · have H3 := hid (show inB a 44032 55203 = false from decide_eq_false hC)
      have HR := hid (show R = (0, false) by rw [hR]; exact join_none hA hC)
      clear hR hA hC
      go_enter Tryz.func106, Tryz.ntmps106
      go_wp2_with (first
        | (go_at_call 110; with_reducible refine (refIn6 a 4352 4370 _).mono ?_; rw [H1.out]; rintro e w1 ⟨rfl, rfl⟩)
        | (go_at_call 110; with_reducible refine (refIn6 a 44032 55203 _).mono ?_; rw [H3.out]; rintro e w1 ⟨rfl, rfl⟩))
      go_ret2
      exact ⟨by rw [HR.out]; rfl, rfl⟩
end Go.Proofs.YtidjjaginindoaaGreat

/-! Ucd4 -/
namespace Go.Proofs.YtidjjaginindoaaGreat
open Go.RowKit

theorem box_third (w : World) (A B : Obj) (t : TypeId) (cs : List Value) : Box t cs (w.heap.size + 2) (((w.alloc A).alloc B).alloc (.cells cs.toArray t)) := by
  have := Box.made ((w.alloc A).alloc B) t cs
  simpa using this
set_option maxHeartbeats 2000000 in
theorem ucdFind2 (v : Value) (l : List Rg) (c d : Int) (w : World) (h : Sg w v l) :
    Calls Tryz.prog 140 #[.agg #[v, .func (.func 145) #[] #[]], .agg #[.int .i64 c, .int .i64 d]] w fun e w' =>
      e = .returned (.tuple #[.agg #[.int .i64 (fndS (fun r => r.t == c && r.v == d) l).1.f, .int .i64 (fndS (fun r => r.t == c && r.v == d) l).1.t, .int .i64 (fndS (fun r => r.t == c && r.v == d) l).1.v], .bool (fndS (fun r => r.t == c && r.v == d) l).2]) ∧ Below w.heap.size w w' := by
  have ml := h.len
  obtain ⟨a1, cap1, rfl, q1, -, h1⟩ := h
  obtain ⟨n, hn⟩ : ∃ n, n = l.length := ⟨_, rfl⟩
  obtain ⟨R, hR⟩ : ∃ R, R = fndS (fun r => r.t == c && r.v == d) l := ⟨_, rfl⟩
  have hH : ∀ k, k < n → (∀ i, i < k → ((l.getD i noRg).t == c && (l.getD i noRg).v == d) = false) → ((l.getD k noRg).t == c && (l.getD k noRg).v == d) = true → R = (l.getD k noRg, true) := fun k hk ha hh => hR.trans (fndS_hit (p := fun r => r.t == c && r.v == d) (by omega) ha hh)
  have hN : (∀ i, i < n → ((l.getD i noRg).t == c && (l.getD i noRg).v == d) = false) → R = (noRg, false) := fun ha => hR.trans (fndS_none (p := fun r => r.t == c && r.v == d) (by rw [← hn]; exact ha))
  rw [← hR]
  have HH := hid hH
  have HN := hid hN
  have H1 := hid h1
  rw [← hn] at ml q1 H1 ⊢
  clear hH hN h1 hn hR
  go_enter Tryz.func140, Tryz.ntmps140
  go_wp2_with (fail)
  go_loopw [12] (fun iv wr => ∃ k : Nat, k ≤ n ∧ iv = .int .i64 k ∧ Hid (Box 143 [.slice a1 n cap1, .func (.func 145) #[] #[]] w.heap.size wr) ∧ Hid (Box 112 [.int .i64 c, .int .i64 d] (w.heap.size + 1) wr) ∧ Hid (Box 66 [.int .i64 0, .int .i64 0, .int .i64 0] (w.heap.size + 2) wr) ∧ Hid (Below w.heap.size w wr) ∧ Hid (∀ i, i < k → ((l.getD i noRg).t == c && (l.getD i noRg).v == d) = false)) (fun iv _ => n - (intOf iv).toNat)
  case atStart => exact ⟨0, by omega, rfl, ((Box.made w 143 _).alloc _).alloc _, (box_last _ _ _ _).alloc _, box_third _ _ _ _ _, by (repeat (first | exact Below.refl _ _ | exact below_drewN _ | refine Below.drew ?_ | refine Below.alloc ?_ (by first | omega | (simp; done) | (simp; omega)) _ | refine Below.setCell ?_ (by first | (simp; done) | (simp; omega)) _ | refine below_drewN' ?_ _)), fun i hi => absurd hi (by omega)⟩
  case round =>
    obtain ⟨k, hk, rfl, hbt, hbk, hbr, hbel, hall⟩ := hrel
    have hsz := hbr.out.lt
    by_cases hlt : k < n
    · rcases H1.out with hc | ⟨b1, o1, rfl, hb1, c1⟩
      · omega
      have hb1' := hb1 (by omega)
      obtain ⟨d1, d2, d3⟩ := c1 k hlt
      have d1 := (hbel.out.cell (p := ⟨b1, o1 + k * 3, none⟩) hb1').trans d1
      have d2 := (hbel.out.cell (p := ⟨b1, o1 + k * 3 + 1, none⟩) hb1').trans d2
      have d3 := (hbel.out.cell (p := ⟨b1, o1 + k * 3 + 2, none⟩) hb1').trans d3
      have hh := hid (HH.out k hlt hall.out)
      have HNX := hid (show ((l.getD k noRg).t == c && (l.getD k noRg).v == d) = false → ∀ i, i < k + 1 → ((l.getD i noRg).t == c && (l.getD i noRg).v == d) = false from fun he i hi => by
        rcases Nat.lt_or_ge i k with h | h
        · exact hall.out i h
        · obtain rfl : i = k := by omega
          exact he)
      clear c1
      generalize l.getD k noRg = r at d1 d2 d3 hh HNX
      obtain ⟨rf, rt, rv⟩ := r
      simp only at d1 d2 d3 hh HNX
      obtain ⟨b, hb⟩ : ∃ b, b = (rt == c && rv == d) := ⟨_, rfl⟩
      rw [← hb] at hh HNX
      have hq := fun w => (eq_c2 rt rv c d w).trans (by rw [← hb])
      have hg := (by kernel_rfl : Tryz.prog.eqGuardType Tryz.prog.depth 112 = false)
      clear hb
      have HBW := hid (show Below wr.heap.size wr (wr.alloc (.cells #[.int .i64 rf, .int .i64 rt, .int .i64 rv] 66)) by (repeat (first | exact Below.refl _ _ | exact below_drewN _ | refine Below.drew ?_ | refine Below.alloc ?_ (by simp) _ | refine Below.setCell ?_ (by simp) _ | refine below_drewN' ?_ _)))
      have HNW := hid (Box.made wr 66 [.int .i64 rf, .int .i64 rt, .int .i64 rv])
      have HRA := hid (hbr.out.alloc (.cells #[.int .i64 rf, .int .i64 rt, .int .i64 rv] 66))
      have HTA := hid (hbt.out.alloc (.cells #[.int .i64 rf, .int .i64 rt, .int .i64 rv] 66))
      have HKA := hid (hbk.out.alloc (.cells #[.int .i64 rf, .int .i64 rt, .int .i64 rv] 66))
      go_wp2_with (fail)
      generalize wr.alloc (.cells #[.int .i64 rf, .int .i64 rt, .int .i64 rv] 66) = W at HBW HNW HRA HTA HKA ⊢
      have HNW : Hid (Box 66 [.int .i64 rf, .int .i64 rt, .int .i64 rv] wr.heap.size W) := HNW
      have x1 := HTA.out.cell 1
      have x2 := HNW.out.cell 0
      have x3 := HNW.out.cell 1
      have x4 := HNW.out.cell 2
      have x5 := HKA.out.cell 0
      have x6 := HKA.out.cell 1
      simp only [List.getElem?_cons_zero, List.getElem?_cons_succ] at x1 x2 x3 x4 x5 x6
      have s1 := fun u : Later W => u.cell x1
      have s2 := fun u : Later W => u.cell x2
      have s3 := fun u : Later W => u.cell x3
      have s4 := fun u : Later W => u.cell x4
      have s5 := fun u : Later W => u.cell x5
      have s6 := fun u : Later W => u.cell x6
      have HK := hid (fun u : Later W => later_call (ucdParts rf rt rv u.w))
      clear x1 x2 x3 x4 x5 x6 d1 d2 d3
      refine region_later (by kernel_rfl) (by kernel_rfl) ?_
      repeat (go_big_quiet_step ((go_at_call 145; with_reducible exact HK.out _)))
      refine wpQuiet_nil ?_
      intro _ hw'
      obtain ⟨u, hw''⟩ := hw'
      subst hw''
      have HBU := hid (hbel.out.trans ((HBW.out.trans (u.below.mono HBW.out.size)).mono hbel.out.size))
      have HRU := hid (HRA.out.below u.below HRA.out.lt)
      have HTU := hid (HTA.out.below u.below HTA.out.lt)
      have HKU := hid (HKA.out.below u.below HKA.out.lt)
      have y2 := s2 u
      have y3 := s3 u
      have y4 := s4 u
      have z0 := HRU.out.ice 0
      have z1 := HRU.out.ice 1
      have z2 := HRU.out.ice 2
      have w0 := HRU.out.cell 0
      have w1 := HRU.out.cell 1
      have w2 := HRU.out.cell 2
      simp only [List.getElem?_cons_zero, List.getElem?_cons_succ] at w0 w1 w2
      clear s1 s2 s3 s4 s5 s6 HK
      cases b with
      | true =>
        have hr := hid (hh.out rfl)
        go_wp2_with (fail)
        refine bodyPost_ret (results_two rfl rfl (loadC3 (HRU.out.three _ _ _))) rfl ⟨by rw [hr.out]; rfl, below_three HBU.out (by omega)⟩
      | false =>
        have hr := hid (HNX.out rfl)
        go_wp2_with (fail)
        go_roundw
        case rel => exact ⟨k + 1, by omega, by go_num, HTU.out, HKU.out, HRU.out, HBU.out, hr.out⟩
        case measure => simp [intOf]; omega
    · obtain rfl : k = n := by omega
      have hr := hid (HN.out hall.out)
      have z0 := hbr.out.ice 0
      have z1 := hbr.out.ice 1
      have z2 := hbr.out.ice 2
      have w0 := hbr.out.cell 0
      have w1 := hbr.out.cell 1
      have w2 := hbr.out.cell 2
      simp only [List.getElem?_cons_zero, List.getElem?_cons_succ] at w0 w1 w2
      have HB3 := hid (below_three (B := w.heap.size + 2) (a := .int .i64 0) (b := .int .i64 0) (c := .int .i64 0) hbel.out (by omega))
      have HR3 := hid (hbr.out.three (.int .i64 0) (.int .i64 0) (.int .i64 0))
      go_wp2_with (fail)
      refine bodyPost_ret (results_two rfl rfl (loadC3 (HR3.out.alloc _))) rfl ⟨by rw [hr.out]; rfl, HB3.out.alloc HB3.out.size _⟩
end Go.Proofs.YtidjjaginindoaaGreat
