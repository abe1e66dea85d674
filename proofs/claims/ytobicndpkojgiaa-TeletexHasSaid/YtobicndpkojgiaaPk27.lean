/- Several texts in one: Te18a, Te18b. -/
import Derived.Test.YtobicndpkojgiaaPk18
import Derived.Test.YtobicndpkojgiaaPk25
import Derived.Test.YtobicndpkojgiaaPk20
import Derived.Test.YtobicndpkojgiaaPk15
import Derived.Test.YtobicndpkojgiaaPk26
import Derived.Carry
import Derived.Maps.Keyed
import Derived.Maps.OwnSet
import Derived.DeepKeys4
import Derived.DataBytes
/-! Te18a -/
namespace Go.Proofs.Ytobicndpkojgiaa
open Go.RowKit
set_option linter.unusedVariables false

/-- the two sets whose letters take accents -/
def hasL (g : Int) : Bool := g == 102 || g == 6
def isAcc (t : Int × Int) : Bool := t.1 == 103 && (markS t.2).2.2
def letOf (t : Int × Int) : Int × Bool := if hasL t.1 = true then (if (getS16 t.1 t.2).2 = true then (if letB (getS16 t.1 t.2).1 = true then ((getS16 t.1 t.2).1, true) else (0, false)) else (0, false)) else (0, false)
def accd (q : Int) (t : Int × Int) : Int × Bool := if t = (0, 32) then ((markS q).2.1, true) else if (letOf t).2 = true then pairS (letOf t).1 (markS q).1 else (0, false)
/-- the scalar that a token, or an accent and what follows it, forms -/
def uniS (t n : Int × Int) : Int × Bool := if isAcc t = true then accd t.2 n else if t.1 = 0 then (t.2, true) else getS16 t.1 t.2

theorem eqlT (a b d e : Int) (w : World) : (binOp .eql 88 (.agg #[.int .i64 a, .int .i64 b]) (.agg #[.int .i64 d, .int .i64 e])).run Try.prog w = .ok (.bool (decide (((a, b) : Int × Int) = (d, e)))) w := by
  have u3 := Try.underlying3
  have a3 := Try.isAgg3
  have z3 := Try.sizeOf3
  have hS : Try.prog.underlying 88 = some (.struct (Try.prog.fieldsOf 88)) := by kernel_rfl
  have hp : Try.prog.stoodInHeld 88 = false := by kernel_rfl
  rw [run_eql_struct, show (10000 : Nat) = 9999 + 1 from rfl, run_equalIn_agg w 9999 88 _ _ hS hp]
  simp only [Program.fieldsOf, Try.underlying88]
  go_simp
  by_cases h1 : a = d <;> by_cases h2 : b = e <;> simp [h1, h2]

theorem teHasLetters (g : Int) (w : World) : Calls Try.prog 59 #[.int .i64 g] w fun e w' => e = .returned (.bool (hasL g)) ∧ w = w' := by
  unfold hasL
  obtain ⟨q, hq⟩ : ∃ q, q = (g == 102) := ⟨_, rfl⟩
  rw [← hq]
  replace hq := hq.symm
  cases q with
  | false =>
    go_enter Try.func59, Try.ntmps59
    go_wp2
    go_ret
    exact ⟨rfl, rfl⟩
  | true =>
    go_enter Try.func59, Try.ntmps59
    go_wp2
    go_ret
    exact ⟨rfl, rfl⟩
theorem teIsLetter (c : Int) (w : World) : Calls Try.prog 87 #[.int .i64 c] w fun e w' => e = .returned (.bool (letB c)) ∧ w = w' := by
  by_cases h1 : 65 ≤ c
  · by_cases h2 : c ≤ 90
    · have hr := hid (show letB c = true from decide_eq_true (.inl ⟨h1, h2⟩))
      go_enter Try.func87, Try.ntmps87
      go_wp2_with (fail)
      go_ret
      exact ⟨by rw [hr.out]; rfl, rfl⟩
    · by_cases h3 : 97 ≤ c
      · obtain ⟨q, hq⟩ : ∃ q, q = decide (c ≤ 122) := ⟨_, rfl⟩
        have hr := hid (show letB c = q from by rw [hq]; unfold letB; exact decide_eq_decide.2 (by omega))
        replace hq := hq.symm
        go_enter Try.func87, Try.ntmps87
        go_wp2_with (fail)
        go_ret
        exact ⟨by rw [hr.out]; first | rfl | (rw [← hq]; rfl) | simp_all, rfl⟩
      · have hr := hid (show letB c = false from decide_eq_false (by omega))
        go_enter Try.func87, Try.ntmps87
        go_wp2_with (fail)
        go_ret
        exact ⟨by rw [hr.out]; rfl, rfl⟩
  · have h3 : ¬ 97 ≤ c := by omega
    have hr := hid (show letB c = false from decide_eq_false (by omega))
    go_enter Try.func87, Try.ntmps87
    go_wp2_with (fail)
    go_ret
    exact ⟨by rw [hr.out]; rfl, rfl⟩
theorem teIsAccent (a p : Int) (w : World) : Calls Try.prog 69 #[.agg #[.int .i64 a, .int .i64 p]] w fun e w' => e = .returned (.bool (isAcc (a, p))) ∧ Below w.heap.size w w' := by
  have HM := hid (fun w => csMark p w)
  unfold isAcc
  generalize markS p = R at HM ⊢
  obtain ⟨m, lo, ok⟩ := R
  simp only at HM ⊢
  have HB0 := hid (show Below w.heap.size w (w.alloc (.cells #[.int .i64 a, .int .i64 p] 88)) from by (repeat (first | exact Below.refl _ _ | exact below_drewN _ | refine Below.drew ?_ | refine Below.alloc ?_ (by simp) _ | refine Below.setCell ?_ (by simp) _ | refine below_drewN' ?_ _)))
  have HX0 := hid (Box.made w 88 [.int .i64 a, .int .i64 p])
  cases ok with
  | false =>
    go_enter Try.func69, Try.ntmps69
    go_wp2_with (go_at_call 82; refine (HM.out _).mono ?_; rintro e w1 ⟨rfl, hb1⟩; have HB1 := hid (HB0.out.trans (hb1.mono HB0.out.size)); have HX1 := hid (HX0.out.below hb1 HX0.out.lt); have x0 := HX1.out.cell 0; have x1 := HX1.out.cell 1; simp only [List.getElem?_cons_zero, List.getElem?_cons_succ] at x0 x1; clear hb1)
    go_ret
    exact ⟨by rw [Bool.and_false]; rfl, HB1.out⟩
  | true =>
    go_enter Try.func69, Try.ntmps69
    go_wp2_with (go_at_call 82; refine (HM.out _).mono ?_; rintro e w1 ⟨rfl, hb1⟩; have HB1 := hid (HB0.out.trans (hb1.mono HB0.out.size)); have HX1 := hid (HX0.out.below hb1 HX0.out.lt); have x0 := HX1.out.cell 0; have x1 := HX1.out.cell 1; simp only [List.getElem?_cons_zero, List.getElem?_cons_succ] at x0 x1; clear hb1)
    go_ret
    exact ⟨by rw [Bool.and_true]; rfl, HB1.out⟩
theorem teLetterOf (a p : Int) (w : World) : Calls Try.prog 83 #[.agg #[.int .i64 a, .int .i64 p]] w fun e w' => e = .returned (.tuple #[.int .i64 (letOf (a, p)).1, .bool (letOf (a, p)).2]) ∧ Below w.heap.size w w' := by
  have HG := hid (fun w => csGet a p w)
  have HH := hid (fun w => teHasLetters a w)
  have HE := hid (fun w => teIsLetter (getS16 a p).1 w)
  unfold letOf
  simp only
  generalize getS16 a p = R at HG HE ⊢
  obtain ⟨g, ok⟩ := R
  simp only at HG HE ⊢
  generalize hasL a = h at HH ⊢
  generalize letB g = l at HE ⊢
  have HB0 := hid (show Below w.heap.size w (w.alloc (.cells #[.int .i64 a, .int .i64 p] 88)) from by (repeat (first | exact Below.refl _ _ | exact below_drewN _ | refine Below.drew ?_ | refine Below.alloc ?_ (by simp) _ | refine Below.setCell ?_ (by simp) _ | refine below_drewN' ?_ _)))
  have HX0 := hid (Box.made w 88 [.int .i64 a, .int .i64 p])
  cases h with
  | false =>
    go_enter Try.func83, Try.ntmps83
    go_wp2_with (go_at_call 59; refine (HH.out _).mono ?_; rintro e wh ⟨rfl, rfl⟩)
    go_ret2
    exact ⟨rfl, HB0.out⟩
  | true =>
    cases ok with
    | false =>
      go_enter Try.func83, Try.ntmps83
      go_wp2_with (first | (go_at_call 59; refine (HH.out _).mono ?_; rintro e wh ⟨rfl, rfl⟩) | (go_at_call 20; refine (HG.out _).mono ?_; rintro e w1 ⟨rfl, hb1⟩; have HB1 := hid (HB0.out.trans (hb1.mono HB0.out.size)); clear hb1))
      go_ret2
      exact ⟨rfl, HB1.out⟩
    | true =>
      cases l with
      | false =>
        go_enter Try.func83, Try.ntmps83
        go_wp2_with (first | (go_at_call 59; refine (HH.out _).mono ?_; rintro e wh ⟨rfl, rfl⟩) | (go_at_call 87; refine (HE.out _).mono ?_; rintro e we ⟨rfl, rfl⟩) | (go_at_call 20; refine (HG.out _).mono ?_; rintro e w1 ⟨rfl, hb1⟩; have HB1 := hid (HB0.out.trans (hb1.mono HB0.out.size)); clear hb1))
        go_ret2
        exact ⟨rfl, HB1.out⟩
      | true =>
        go_enter Try.func83, Try.ntmps83
        go_wp2_with (first | (go_at_call 59; refine (HH.out _).mono ?_; rintro e wh ⟨rfl, rfl⟩) | (go_at_call 87; refine (HE.out _).mono ?_; rintro e we ⟨rfl, rfl⟩) | (go_at_call 20; refine (HG.out _).mono ?_; rintro e w1 ⟨rfl, hb1⟩; have HB1 := hid (HB0.out.trans (hb1.mono HB0.out.size)); clear hb1))
        go_ret2
        exact ⟨rfl, HB1.out⟩
set_option maxHeartbeats 1000000 in
theorem teAccented (q a p : Int) (w : World) : Calls Try.prog 70 #[.int .i64 q, .agg #[.int .i64 a, .int .i64 p]] w fun e w' => e = .returned (.tuple #[.int .i64 (accd q (a, p)).1, .bool (accd q (a, p)).2]) ∧ Below w.heap.size w w' := by
  have HM := hid (fun w => csMark q w)
  have HO := hid (fun w => teLetterOf a p w)
  have HP := hid (fun w => ucdPair (letOf (a, p)).1 (markS q).1 w)
  have hq0 := eqlT a p 0 32
  unfold accd
  generalize markS q = R at HM HP ⊢
  obtain ⟨m, lo, ok⟩ := R
  simp only at HM HP ⊢
  generalize letOf (a, p) = L at HO HP ⊢
  obtain ⟨g, lk⟩ := L
  simp only at HO HP ⊢
  generalize pairS g m = Q at HP ⊢
  obtain ⟨pc, pk⟩ := Q
  simp only at HP ⊢
  have HB0 := hid (show Below w.heap.size w (w.alloc (.cells #[.int .i64 a, .int .i64 p] 88)) from by (repeat (first | exact Below.refl _ _ | exact below_drewN _ | refine Below.drew ?_ | refine Below.alloc ?_ (by simp) _ | refine Below.setCell ?_ (by simp) _ | refine below_drewN' ?_ _)))
  have HX0 := hid (Box.made w 88 [.int .i64 a, .int .i64 p])
  by_cases h1 : ((a, p) : Int × Int) = (0, 32)
  · rw [if_pos h1]
    rw [decide_eq_true h1] at hq0
    clear h1
    go_enter Try.func70, Try.ntmps70
    go_wp2_with (go_at_call 82; refine (HM.out _).mono ?_; rintro e w1 ⟨rfl, hb1⟩; have HB1 := hid (HB0.out.trans (hb1.mono HB0.out.size)); have HX1 := hid (HX0.out.below hb1 HX0.out.lt); have x0 := HX1.out.cell 0; have x1 := HX1.out.cell 1; simp only [List.getElem?_cons_zero, List.getElem?_cons_succ] at x0 x1; clear hb1)
    go_ret2
    exact ⟨rfl, HB1.out⟩
  · rw [if_neg h1]
    rw [decide_eq_false h1] at hq0
    clear h1
    cases lk with
    | false =>
      go_enter Try.func70, Try.ntmps70
      go_wp2_with (first | (go_at_call 82; refine (HM.out _).mono ?_; rintro e w1 ⟨rfl, hb1⟩; have HB1 := hid (HB0.out.trans (hb1.mono HB0.out.size)); have HX1 := hid (HX0.out.below hb1 HX0.out.lt); have x0 := HX1.out.cell 0; have x1 := HX1.out.cell 1; simp only [List.getElem?_cons_zero, List.getElem?_cons_succ] at x0 x1; clear hb1) | (go_at_call 83; refine (HO.out _).mono ?_; rintro e w2 ⟨rfl, hb2⟩; have HB2 := hid (HB1.out.trans (hb2.mono HB1.out.size)); clear hb2))
      go_ret2
      exact ⟨rfl, HB2.out⟩
    | true =>
      go_enter Try.func70, Try.ntmps70
      go_wp2_with (first | (go_at_call 82; refine (HM.out _).mono ?_; rintro e w1 ⟨rfl, hb1⟩; have HB1 := hid (HB0.out.trans (hb1.mono HB0.out.size)); have HX1 := hid (HX0.out.below hb1 HX0.out.lt); have x0 := HX1.out.cell 0; have x1 := HX1.out.cell 1; simp only [List.getElem?_cons_zero, List.getElem?_cons_succ] at x0 x1; clear hb1) | (go_at_call 83; refine (HO.out _).mono ?_; rintro e w2 ⟨rfl, hb2⟩; have HB2 := hid (HB1.out.trans (hb2.mono HB1.out.size)); clear hb2) | (go_at_call 22; refine (HP.out _).mono ?_; rintro e w3 ⟨rfl, hb3⟩; have HB3 := hid (HB2.out.trans (hb3.mono HB2.out.size)); clear hb3))
      go_ret2
      exact ⟨rfl, HB3.out⟩
set_option maxHeartbeats 1000000 in
theorem teScalar (a p b r : Int) (w : World) : Calls Try.prog 51 #[.agg #[.int .i64 a, .int .i64 p, .int .i64 b, .int .i64 r]] w fun e w' => e = .returned (.tuple #[.int .i64 (uniS (a, p) (b, r)).1, .bool (uniS (a, p) (b, r)).2]) ∧ Below w.heap.size w w' := by
  have HA := hid (fun w => teIsAccent a p w)
  have HD := hid (fun w => teAccented p b r w)
  have HG := hid (fun w => csGet a p w)
  unfold uniS
  simp only
  generalize isAcc (a, p) = A at HA ⊢
  generalize accd p (b, r) = D at HD ⊢
  obtain ⟨dc, dk⟩ := D
  generalize getS16 a p = G at HG ⊢
  obtain ⟨gc, gk⟩ := G
  simp only at HD HG ⊢
  have HB0 := hid (show Below w.heap.size w (w.alloc (.cells #[.int .i64 a, .int .i64 p, .int .i64 b, .int .i64 r] 93)) from by (repeat (first | exact Below.refl _ _ | exact below_drewN _ | refine Below.drew ?_ | refine Below.alloc ?_ (by simp) _ | refine Below.setCell ?_ (by simp) _ | refine below_drewN' ?_ _)))
  have HX0 := hid (Box.made w 93 [.int .i64 a, .int .i64 p, .int .i64 b, .int .i64 r])
  cases A with
  | true =>
    go_enter Try.func51, Try.ntmps51
    go_wp2_with (first | (go_at_call 69; refine (HA.out _).mono ?_; rintro e w1 ⟨rfl, hb1⟩; have HB1 := hid (HB0.out.trans (hb1.mono HB0.out.size)); have HX1 := hid (HX0.out.below hb1 HX0.out.lt); have x0 := HX1.out.cell 0; have x1 := HX1.out.cell 1; have x2 := HX1.out.cell 2; have x3 := HX1.out.cell 3; simp only [List.getElem?_cons_zero, List.getElem?_cons_succ] at x0 x1 x2 x3; clear hb1) | (go_at_call 70; refine (HD.out _).mono ?_; rintro e w2 ⟨rfl, hb2⟩; have HB2 := hid (HB1.out.trans (hb2.mono HB1.out.size)); clear hb2))
    go_ret2
    exact ⟨rfl, HB2.out⟩
  | false =>
    by_cases h0 : a = 0
    · have e0 : (a == 0) = true := by simpa using h0
      rw [if_neg (by decide), if_pos h0]
      clear h0
      go_enter Try.func51, Try.ntmps51
      go_wp2_with (go_at_call 69; refine (HA.out _).mono ?_; rintro e w1 ⟨rfl, hb1⟩; have HB1 := hid (HB0.out.trans (hb1.mono HB0.out.size)); have HX1 := hid (HX0.out.below hb1 HX0.out.lt); have x0 := HX1.out.cell 0; have x1 := HX1.out.cell 1; have x2 := HX1.out.cell 2; have x3 := HX1.out.cell 3; simp only [List.getElem?_cons_zero, List.getElem?_cons_succ] at x0 x1 x2 x3; clear hb1)
      go_ret2
      exact ⟨rfl, HB1.out⟩
    · have e0 : (a == 0) = false := by simpa using h0
      rw [if_neg (by decide), if_neg h0]
      clear h0
      go_enter Try.func51, Try.ntmps51
      go_wp2_with (first | (go_at_call 69; refine (HA.out _).mono ?_; rintro e w1 ⟨rfl, hb1⟩; have HB1 := hid (HB0.out.trans (hb1.mono HB0.out.size)); have HX1 := hid (HX0.out.below hb1 HX0.out.lt); have x0 := HX1.out.cell 0; have x1 := HX1.out.cell 1; have x2 := HX1.out.cell 2; have x3 := HX1.out.cell 3; simp only [List.getElem?_cons_zero, List.getElem?_cons_succ] at x0 x1 x2 x3; clear hb1) | (go_at_call 20; refine (HG.out _).mono ?_; rintro e w2 ⟨rfl, hb2⟩; have HB2 := hid (HB1.out.trans (hb2.mono HB1.out.size)); clear hb2))
      go_ret2
      exact ⟨rfl, HB2.out⟩
end Go.Proofs.Ytobicndpkojgiaa

/-! Te18b -/
namespace Go.Proofs.Ytobicndpkojgiaa
open Go.RowKit Go.Maps
set_option linter.unusedVariables false

theorem wf_k18 {c : Int} (h : inI c = true) : (Lit.int .i64 c).wf = true := by
  unfold inI at h
  rw [decide_eq_true_iff] at h
  simpa [Lit.wf, IntKind.min, IntKind.max, IntKind.signed, IntKind.bits] using h
theorem types_more18 : ∃ m, Try.prog.types.size = m + 3 := ⟨Try.prog.types.size - 3, by
  have : 3 ≤ Try.prog.types.size := of_decide_eq_true (by kernel_rfl)
  omega⟩
/-- a unit, a task as keys -/
def uv (a p b r : Int) : Value := .agg #[.int .i64 a, .int .i64 p, .int .i64 b, .int .i64 r]
def kv (c g : Int) : Value := .agg #[.int .i64 c, .int .i64 g]
theorem int_cells18 : Try.prog.cellsOf 3 = 1 := by kernel_rfl
theorem tok_cells18 : Try.prog.cellsOf 88 = 2 := by kernel_rfl
theorem un_cells18 : Try.prog.cellsOf 93 = 4 := by kernel_rfl
theorem ta_cells18 : Try.prog.cellsOf 54 = 2 := by kernel_rfl
theorem un_keyType : Try.prog.keyType 93 = true := by kernel_rfl
theorem ta_keyType : Try.prog.keyType 54 = true := by kernel_rfl
theorem lits_int18 (m : Nat) {c : Int} (h : inI c = true) : Try.prog.keyLits (m + 1) 3 [.int .i64 c] = some [Lit.int .i64 c] := by
  unfold Program.keyLits
  simp only [Try.underlying3]
  rw [if_pos ⟨trivial, wf_k18 h⟩]
theorem lits_tok18 (m : Nat) {a p : Int} (ha : inI a = true) (hp : inI p = true) : Try.prog.keyLits (m + 2) 88 [.int .i64 a, .int .i64 p] = some [Lit.int .i64 a, Lit.int .i64 p] := by
  unfold Program.keyLits
  simp only [Try.underlying88]
  rw [if_pos ⟨by rw [tok_cells18]; rfl, by simp⟩]
  simp [int_cells18, lits_int18, ha, hp]
theorem un_key {a p b r : Int} (ha : inI a = true) (hp : inI p = true) (hb : inI b = true) (hr : inI r = true) : ∃ l, keyOf Try.prog 93 (uv a p b r) = some l := by
  obtain ⟨m, hm⟩ := types_more18
  unfold keyOf uv
  simp only [Try.underlying93]
  rw [if_pos (by simp [un_keyType, Value.formed, un_cells18, Try.underlying93]), hm]
  unfold Program.keyLits
  simp only [Try.underlying93, Value.cells]
  rw [if_pos ⟨by rw [un_cells18]; rfl, by simp⟩]
  simp [tok_cells18, lits_tok18, ha, hp, hb, hr]
theorem ta_key {c g : Int} (hc : inI c = true) (hg : inI g = true) : ∃ l, keyOf Try.prog 54 (kv c g) = some l := by
  obtain ⟨m, hm⟩ := types_more18
  unfold keyOf kv
  simp only [Try.underlying54]
  rw [if_pos (by simp [ta_keyType, Value.formed, ta_cells18, Try.underlying54]), hm]
  unfold Program.keyLits
  simp only [Try.underlying54, Value.cells]
  rw [if_pos ⟨by rw [ta_cells18]; rfl, by simp⟩]
  simp [int_cells18, lits_int18, hc, hg]
theorem Try.laidOut18 : laidOutB Try.prog = true := by kernel_rfl
set_option maxRecDepth 100000 in
theorem un_law : Keyed Try.prog 93 := Keyed.of_law (deep_law_laid Try.laidOut18 (m := 3) (by omega) (of_decide_eq_true (by kernel_rfl)) (by kernel_rfl) (by kernel_rfl))
set_option maxRecDepth 100000 in
theorem ta_law : Keyed Try.prog 54 := Keyed.of_law (deep_law_laid Try.laidOut18 (m := 2) (by omega) (of_decide_eq_true (by kernel_rfl)) (by kernel_rfl) (by kernel_rfl))

theorem look_key {P : Program} {W : World} {T k e : TypeId} (K : Keyed P k) (ht : P.underlying T = some (.map k e)) {z : Value} (hz : (zeroValue e).run P W = .ok z W) {M : Nat} {es : Array MapEntry} {clock : Nat}
    (hM : W.heap[M]? = some (.map es clock)) (hes : ∀ x ∈ es.toList, ∃ l, keyOf P k x.key = some l) {key : Value} {kl : Lit} (hkey : keyOf P k key = some kl) :
    (Instr.lookup T (.map (some M)) key true).run P W = .ok (.tuple #[z, .bool false]) W ∨ ∃ e0 ∈ es.toList, e0.key = key ∧ (Instr.lookup T (.map (some M)) key true).run P W = .ok (.tuple #[e0.val, .bool true]) W := by
  rcases K.find W hkey es.toList hes with ⟨h1, _⟩ | ⟨j, e0, h1, h2, h3⟩
  · exact .inl (by simp [Instr.lookup, run_underlying ht, MapKept.run_getObj_map hM, K.check W _ hkey, h1, hz, Result.andThen])
  · exact .inr ⟨e0, List.mem_of_getElem? h2, h3, by simp [Instr.lookup, run_underlying ht, MapKept.run_getObj_map hM, K.check W _ hkey, h1, Result.andThen]⟩
theorem store_key {P : Program} {W : World} {T k e : TypeId} (K : Keyed P k) (ht : P.underlying T = some (.map k e)) {M : Nat} {es : Array MapEntry} {clock : Nat}
    (hM : W.heap[M]? = some (.map es clock)) (hes : ∀ x ∈ es.toList, ∃ l, keyOf P k x.key = some l) {key : Value} {kl : Lit} (hkey : keyOf P k key = some kl) (val : Value) :
    ∃ W', (Instr.mapUpdate T (.map (some M)) key val).run P W = .ok () W' ∧ W.grownBy W' (some M) ∧ ∃ es' clock', W'.heap[M]? = some (.map es' clock') ∧ ∀ x ∈ es'.toList, x ∈ es.toList ∨ (x.key = key ∧ x.val = val) := by
  have grown : ∀ o, W.grownBy (ChangeMaps.setBlock W M o) (some M) := fun o => ⟨rfl, rfl, rfl, by simp [ChangeMaps.setBlock], fun i _ hi => ChangeMaps.heap_setBlock_other hM _ (fun e => hi (by rw [e]))⟩
  rcases K.find W hkey es.toList hes with ⟨h1, _⟩ | ⟨j, e0, h1, h2, h3⟩
  · refine ⟨_, by simp [Instr.mapUpdate, run_underlying ht, MapKept.run_getObj_map hM, K.check W false hkey, h1, MapKept.run_setObj_map _ hM, Result.andThen]; rfl, grown _, _, _, ChangeMaps.heap_setBlock_same hM _, fun x hx => ?_⟩
    simp only [Array.toList_push, List.mem_append, List.mem_singleton] at hx
    rcases hx with hx | rfl
    · exact .inl hx
    · exact .inr ⟨rfl, rfl⟩
  · have hj : es[j]? = some e0 := by simpa using h2
    have hst := K.stays W hkey
    refine ⟨_, by simp [Instr.mapUpdate, run_underlying ht, MapKept.run_getObj_map hM, K.check W false hkey, h1, hj, h3, hst, MapKept.run_setObj_map _ hM, Result.andThen]; rfl, grown _, _, _, ChangeMaps.heap_setBlock_same hM _, fun x hx => ?_⟩
    rw [Array.toList_modify, ChangeMaps.modify_eq_set _ _ _ _ h2] at hx
    rcases List.mem_or_eq_of_mem_set hx with hx | rfl
    · exact .inl hx
    · exact .inr ⟨rfl, rfl⟩
theorem wpList_lookK {P : Program} {w : World} {ops : Array Oper} {rest : List Oper} {o : Oper} {a : Act} {Q : Exit → Act → World → Prop}
    (hg : o.guard = none) (m x : Operand) (T : TypeId) (hop : o.op = Op.lookup T m x true) (M : Nat) (key : Value) (hm : a.eval m = .map (some M)) (hx : a.eval x = key) {r : Value}
    (hrun : (Instr.lookup T (.map (some M)) key true).run P w = .ok r w) (hK : wpList P ops Q rest (a.put o.dst r) w) : wpList P ops Q (o :: rest) a w := by
  refine wpList_plain hg fun K' hK' => ?_
  unfold Oper.wp
  simp [execOp, hop, hm, hx, hrun, Result.andThen]
  exact hK' _ _ hK
theorem wpList_storeK {P : Program} {w : World} {ops : Array Oper} {rest : List Oper} {o : Oper} {a : Act} {Q : Exit → Act → World → Prop}
    (hg : o.guard = none) (m x y : Operand) (T : TypeId) (hop : o.op = Op.mapUpdate T m x y) (M : Nat) (key val : Value) (hm : a.eval m = .map (some M)) (hx : a.eval x = key) (hy : a.eval y = val) {w' : World}
    (hrun : (Instr.mapUpdate T (.map (some M)) key val).run P w = .ok () w') (hK : wpList P ops Q rest (a.put o.dst undef) w') : wpList P ops Q (o :: rest) a w := by
  refine wpList_plain hg fun K' hK' => ?_
  unfold Oper.wp
  simp [execOp, hop, hm, hx, hy, hrun, Result.andThen]
  exact hK' _ _ hK

/-- an entry tells which scalar a unit forms -/
def UnE (e : MapEntry) : Prop := ∃ a p b r c, e.key = uv a p b r ∧ (inI a = true ∧ inI p = true ∧ inI b = true ∧ inI r = true) ∧ e.val = .int .i64 c ∧ uniS (a, p) (b, r) = (c, true)
def MapU (M : Nat) (w : World) : Prop := ∃ es clock, w.heap[M]? = some (.map es clock) ∧ ∀ e ∈ es.toList, UnE e
theorem MapU.lt {M : Nat} {w : World} (h : MapU M w) : M < w.heap.size := by
  obtain ⟨es, clock, hm, -⟩ := h
  exact (Array.getElem?_eq_some_iff.1 hm).1
theorem MapU.same {M : Nat} {w w' : World} (h : MapU M w) (hb : w'.heap[M]? = w.heap[M]?) : MapU M w' := by
  obtain ⟨es, clock, hm, h1⟩ := h
  exact ⟨es, clock, hb.trans hm, h1⟩
theorem MapU.below {M : Nat} {w w' : World} (h : MapU M w) (hb : Below w.heap.size w w') : MapU M w' := h.same (hb.block M h.lt)
theorem MapU.nil {M clock : Nat} {w : World} (h : w.heap[M]? = some (.map #[] clock)) : MapU M w := ⟨_, _, h, fun e he => by simp at he⟩
theorem MapU.no {M : Nat} {w : World} (h : MapU M w) {cs : Array Value} {t : TypeId} {r : Nat × Nat} {B : Nat} (hb : w.heap[B]? = some (.cells cs t r)) : B ≠ M := fun e => by
  obtain ⟨es, clock, hm, -⟩ := h
  rw [e, hm] at hb
  cases hb
theorem MapU.look {M : Nat} {w : World} (h : MapU M w) {a p b r : Int} (ha : inI a = true) (hp : inI p = true) (hb : inI b = true) (hr : inI r = true) :
    (Instr.lookup 91 (.map (some M)) (uv a p b r) true).run Try.prog w = .ok (.tuple #[.int .i64 0, .bool false]) w ∨ ∃ c, uniS (a, p) (b, r) = (c, true) ∧ (Instr.lookup 91 (.map (some M)) (uv a p b r) true).run Try.prog w = .ok (.tuple #[.int .i64 c, .bool true]) w := by
  obtain ⟨es, clock, hm, h1⟩ := h
  obtain ⟨kl, hk⟩ := un_key ha hp hb hr
  have hz : (zeroValue 3).run Try.prog w = .ok (.int .i64 0) w := by kernel_rfl
  rcases look_key un_law Try.underlying91 hz hm (fun x hx => by
    obtain ⟨a', p', b', r', c, e1, ⟨h1, h2, h3, h4⟩, -⟩ := h1 x hx
    rw [e1]
    exact un_key h1 h2 h3 h4) hk with hl | ⟨e0, he0, hek, hl⟩
  · exact .inl hl
  · obtain ⟨a', p', b', r', c, e1, -, e2, e3⟩ := h1 e0 he0
    rw [hek] at e1
    unfold uv at e1
    simp only [Value.agg.injEq, Array.mk.injEq, List.cons.injEq, Value.int.injEq, true_and, and_true] at e1
    obtain ⟨rfl, rfl, rfl, rfl⟩ := e1
    exact .inr ⟨c, e3, by rw [hl, e2]⟩
theorem MapU.store {M : Nat} {w : World} (h : MapU M w) {a p b r c : Int} (ha : inI a = true) (hp : inI p = true) (hb : inI b = true) (hr : inI r = true) (hc : uniS (a, p) (b, r) = (c, true)) :
    ∃ w', (Instr.mapUpdate 91 (.map (some M)) (uv a p b r) (.int .i64 c)).run Try.prog w = .ok () w' ∧ w.grownBy w' (some M) ∧ MapU M w' := by
  obtain ⟨es, clock, hm, h1⟩ := h
  obtain ⟨kl, hk⟩ := un_key ha hp hb hr
  obtain ⟨w', h2, h3, es', clock', h4, h5⟩ := store_key un_law Try.underlying91 hm (fun x hx => by
    obtain ⟨a', p', b', r', c, e1, ⟨h1, h2, h3, h4⟩, -⟩ := h1 x hx
    rw [e1]
    exact un_key h1 h2 h3 h4) hk (.int .i64 c)
  refine ⟨w', h2, h3, es', clock', h4, fun x hx => ?_⟩
  rcases h5 x hx with hx | ⟨e1, e2⟩
  · exact h1 x hx
  · exact ⟨a, p, b, r, c, e1, ⟨ha, hp, hb, hr⟩, e2, hc⟩

/-- an entry tells what is written for a task; its bytes lie apart from v -/
def PcE (base : Nat) (v : Value) (w : World) (e : MapEntry) : Prop := ∃ c g x h bs, e.key = kv c g ∧ (inI c = true ∧ inI g = true) ∧ e.val = .agg #[x, .int .i64 h] ∧ oneP g c = some (bs, h) ∧ Own .u8 5 base w x bs ∧ Apt v x
def MapP (base : Nat) (v : Value) (M : Nat) (w : World) : Prop := ∃ es clock, w.heap[M]? = some (.map es clock) ∧ ∀ e ∈ es.toList, PcE base v w e
theorem MapP.lt {base : Nat} {v : Value} {M : Nat} {w : World} (h : MapP base v M w) : M < w.heap.size := by
  obtain ⟨es, clock, hm, -⟩ := h
  exact (Array.getElem?_eq_some_iff.1 hm).1
theorem MapP.move {base : Nat} {v v' : Value} {M : Nat} {w w' : World} (h : MapP base v M w) (hb : w'.heap[M]? = w.heap[M]?) (hx : ∀ z zs, Own .u8 5 base w z zs → Apt v z → Own .u8 5 base w' z zs ∧ Apt v' z) : MapP base v' M w' := by
  obtain ⟨es, clock, hm, h1⟩ := h
  refine ⟨es, clock, hb.trans hm, fun e he => ?_⟩
  obtain ⟨c, g, x, h, bs, e1, e2, e3, e4, e5, e6⟩ := h1 e he
  obtain ⟨a, b⟩ := hx _ _ e5 e6
  exact ⟨c, g, x, h, bs, e1, e2, e3, e4, a, b⟩
theorem MapP.below {base : Nat} {v : Value} {M : Nat} {w w' : World} (h : MapP base v M w) (hb : Below w.heap.size w w') : MapP base v M w' := h.move (hb.block M h.lt) fun z zs h1 h2 => ⟨h1.below hb, h2⟩
theorem MapP.nil {base : Nat} {v : Value} {M clock : Nat} {w : World} (h : w.heap[M]? = some (.map #[] clock)) : MapP base v M w := ⟨_, _, h, fun e he => by simp at he⟩
theorem own_nomap {M base : Nat} {w : World} {es : Array MapEntry} {clock : Nat} {v : Value} {xs : List Int} (hm : w.heap[M]? = some (.map es clock)) (ho : Own .u8 5 base w v xs) : v.ownBlock ≠ some M := fun e => by
  rcases ho.2 with ⟨rfl, -⟩ | ⟨g, cap, cur, rfl, -, hh, -⟩
  · simp [Value.ownBlock] at e
  · have e' : g = M := by simpa [Value.ownBlock] using e
    subst e'
    rw [hm] at hh
    cases hh
theorem MapP.noown {base base' : Nat} {v u : Value} {M : Nat} {w : World} {xs : List Int} (h : MapP base v M w) (ho : Own .u8 5 base' w u xs) : u.ownBlock ≠ some M := by
  obtain ⟨es, clock, hm, -⟩ := h
  exact own_nomap hm ho
theorem MapP.look {base : Nat} {v : Value} {M : Nat} {w : World} (h : MapP base v M w) {c g : Int} (hc : inI c = true) (hg : inI g = true) :
    (Instr.lookup 52 (.map (some M)) (kv c g) true).run Try.prog w = .ok (.tuple #[.agg #[.slice none 0 0, .int .i64 0], .bool false]) w ∨ ∃ x h bs, oneP g c = some (bs, h) ∧ Own .u8 5 base w x bs ∧ Apt v x ∧ (Instr.lookup 52 (.map (some M)) (kv c g) true).run Try.prog w = .ok (.tuple #[.agg #[x, .int .i64 h], .bool true]) w := by
  obtain ⟨es, clock, hm, h1⟩ := h
  obtain ⟨kl, hk⟩ := ta_key hc hg
  have hz : (zeroValue 56).run Try.prog w = .ok (.agg #[.slice none 0 0, .int .i64 0]) w := by kernel_rfl
  rcases look_key ta_law Try.underlying52 hz hm (fun x hx => by
    obtain ⟨c', g', x', h', bs, e1, ⟨h1, h2⟩, -⟩ := h1 x hx
    rw [e1]
    exact ta_key h1 h2) hk with hl | ⟨e0, he0, hek, hl⟩
  · exact .inl hl
  · obtain ⟨c', g', x', h', bs, e1, -, e2, e3, e4, e5⟩ := h1 e0 he0
    rw [hek] at e1
    unfold kv at e1
    simp only [Value.agg.injEq, Array.mk.injEq, List.cons.injEq, Value.int.injEq, true_and, and_true] at e1
    obtain ⟨rfl, rfl⟩ := e1
    exact .inr ⟨x', h', bs, e3, e4, e5, by rw [hl, e2]⟩
theorem MapP.store {base : Nat} {v : Value} {M : Nat} {w : World} (h : MapP base v M w) {c g : Int} (hc : inI c = true) (hg : inI g = true) {x : Value} {h0 : Int} {bs : List Int} (hp : oneP g c = some (bs, h0)) (ho : Own .u8 5 base w x bs) (ha : Apt v x) :
    ∃ w', (Instr.mapUpdate 52 (.map (some M)) (kv c g) (.agg #[x, .int .i64 h0])).run Try.prog w = .ok () w' ∧ w.grownBy w' (some M) ∧ MapP base v M w' := by
  obtain ⟨es, clock, hm, h1⟩ := h
  obtain ⟨kl, hk⟩ := ta_key hc hg
  obtain ⟨w', h2, h3, es', clock', h4, h5⟩ := store_key ta_law Try.underlying52 hm (fun x hx => by
    obtain ⟨c', g', x', h', bs, e1, ⟨h1, h2⟩, -⟩ := h1 x hx
    rw [e1]
    exact ta_key h1 h2) hk (.agg #[x, .int .i64 h0])
  have kept : ∀ z zs, Own .u8 5 base w z zs → Own .u8 5 base w' z zs := fun z zs hz => World.ownsRow.kept hz h3 (.inr (own_nomap hm hz))
  refine ⟨w', h2, h3, es', clock', h4, fun y hy => ?_⟩
  rcases h5 y hy with hy | ⟨e1, e2⟩
  · obtain ⟨c', g', x', h', bs', e1, e2, e3, e4, e5, e6⟩ := h1 y hy
    exact ⟨c', g', x', h', bs', e1, e2, e3, e4, kept _ _ e5, e6⟩
  · exact ⟨c, g, x, h0, bs, e1, ⟨hc, hg⟩, e2, hp, kept _ _ ho, ha⟩
end Go.Proofs.Ytobicndpkojgiaa
