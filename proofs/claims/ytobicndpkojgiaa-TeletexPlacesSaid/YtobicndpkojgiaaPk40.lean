/- Several texts in one: Sh17i, Te18c, Te18d, Te18e, Te18f, Te18g. -/
import Derived.Test.YtobicndpkojgiaaPk32
import Derived.Test.YtobicndpkojgiaaPk20
import Derived.Test.YtobicndpkojgiaaPk27
import Derived.Test.YtobicndpkojgiaaPk33
import Derived.Test.YtobicndpkojgiaaPk39
import Derived.StillTailTactics
/-! Sh17i -/
namespace Go.Proofs.Ytobicndpkojgiaa
open Go.RowKit
set_option linter.unusedVariables false

/-- tokens of the call's own stay while the state is written -/
theorem tk_kept {base B : Nat} {st : Rd} {w w' : World} {v : Value} {l : List (Int × Int)} (h : OwnT 88 base w v l) (hst : StI B st w) (hg : w.grownBy w' (some B)) : OwnT 88 base w' v l := by
  refine World.ownsRow.kept h hg ?_
  rcases h.2 with ⟨rfl, -⟩ | ⟨g, cap, cur, rfl, -, hh, -⟩
  · exact .inl rfl
  · refine .inr fun e1 => ?_
    have e2 : B = g := by simpa [Value.ownBlock] using e1.symm
    subst e2
    have hb := hst.box
    unfold Box at hb
    rw [hb] at hh
    injection hh with hh
    injection hh with _ hh
    exact absurd hh (by decide)
theorem StI.grownT {B e base : Nat} {st : Rd} {w w' : World} {v : Value} {l : List (Int × Int)} (hst : StI B st w) (h : OwnT e base w v l) (hg : w.grownBy w' v.ownBlock) (he : 86 ≠ e) : StI B st w' := ⟨hst.box.grownT h hg he, hst.len, hst.left, hst.right⟩
theorem neq_zero (p q : Int) (w : World) : (binOp .neq 88 (.agg #[.int .i64 p, .int .i64 q]) (.agg #[.int .i64 0, .int .i64 0])).run Try.prog w = .ok (.bool (!decide (((p, q) : Int × Int) = (0, 0)))) w := neq_tk p q 0 0 w

set_option maxHeartbeats 4000000 in
set_option maxRecDepth 10000 in
theorem shTokens (HW : WideE) (HF : ByFinE) : ShTokOk := by
  intro v b w hs hu hl
  obtain ⟨iT, hi0, hz0, hz1, hz2⟩ := info_parts Try.infoTk
  obtain ⟨zT, hzv⟩ : ∃ z : Value, z = .agg #[.int .i64 0, .int .i64 0] := ⟨_, rfl⟩
  rw [← hzv] at hz0
  have HS := hid hs
  obtain ⟨a1, cap1, rfl, q1, -, -⟩ := hs
  obtain ⟨n, hn⟩ : ∃ n, n = b.length := ⟨_, rfl⟩
  have HN := hid hn
  have HU := hid hu
  rw [← hn] at q1 hl HS ⊢
  have HST0 := hid (show StI w.heap.size rd0 (w.alloc (.cells #[.int .i64 102, .int .i64 0, .int .i64 103, .int .i64 0, .int .i64 0, .int .i64 2] 86)) from ⟨Box.made w 86 [_, _, _, _, _, _], rfl, by decide, by decide⟩)
  clear hn hu
  go_enter Try.func29, Try.ntmps29
  go_wp2
  go_loopw [2, 3, 4] (fun lv av ev wr => ∃ (q : Nat) (ts : List (Int × Int)) (st : Rd), q ≤ n ∧ av = .int .i64 (q : Int) ∧ ev = .int .i64 0 ∧ Hid (OwnT 88 w.heap.size wr lv ts) ∧ Hid (StI w.heap.size st wr) ∧ Hid (Below w.heap.size w wr) ∧ Hid (Read17 b q ts st)) (fun _ av _ _ => n - (intOf av).toNat)
  case atStart => exact ⟨0, [], rd0, Nat.zero_le _, rfl, rfl, OwnT.nil _ _ _, HST0.out, by (repeat (first | exact Below.refl _ _ | exact below_drewN _ | refine Below.drew ?_ | refine Below.alloc ?_ (by simp) _ | refine Below.setCell ?_ (by simp) _ | refine below_drewN' ?_ _)), rd17_nil b⟩
  case round =>
    obtain ⟨q, ts, st, hq, rfl, rfl, hown, hst, hbel, hrd⟩ := hrel
    by_cases hlt : q < n
    · obtain ⟨c, r, hcr⟩ : ∃ c r, b.drop q = c :: r := ⟨_, _, dropc (by have := HN.out; omega)⟩
      have HCR := hid hcr
      have hu' : U8 (c :: r) := fun x hx => HU.out x (by rw [← hcr] at hx; exact List.mem_of_mem_drop hx)
      have hl' : (c :: r).length ≤ 100000 := by rw [← hcr, List.length_drop]; have := HN.out; omega
      have HNX := hid (fun v' (w' : World) (h1 : StI w.heap.size st w') (h2 : Sl .u8 w' v' (c :: r)) => shNext HW HF w.heap.size st v' c r w' h1 h2 hu' hl')
      have hqb : q < b.length := by have := HN.out; omega
      have HBAD := hid (fun x (h : tkS st (c :: r) = .inr x) => (⟨rd17_bad hrd.out hqb (by rw [hcr]; exact h), tk_err h⟩ : tokS b = .inr (q, x) ∧ x ≠ 0))
      have HSTEP := hid (fun ts' k s (h : tkS st (c :: r) = .inl (ts', k, s)) (h1 : ts'.length ≤ 1) => rd17_step hrd.out hqb (by rw [hcr]; exact h) h1)
      have HKP := hid (fun ts' k s (h : tkS st (c :: r) = .inl (ts', k, s)) => tk_ok h)
      have HLR := hid (show (c :: r).length = n - q by rw [← hcr, List.length_drop, ← HN.out])
      clear hu' hl' hqb hcr
      generalize tkS st (c :: r) = R at HNX HBAD HSTEP HKP
      cases R with
      | inr x =>
        simp only [NxE] at HNX
        obtain ⟨hb, hx⟩ := HBAD.out x rfl
        have HB := hid hb
        have ex : (x != 0) = true := by simpa using hx
        clear HBAD HSTEP HKP hb hx
        go_wp2_with (first
          | (with_reducible refine at_from ?_; refine wpList_from _ rfl _ _ 23 rfl .u8 5 1 Try.underlying23 Try.infoU8 (.slice a1 n cap1) b rfl (HS.out.below hbel.out) .i64 (q : Int) rfl (by omega) (by have := HN.out; omega) ?_; rw [Int.toNat_natCast, HCR.out]; intro v1 hs1; obtain ⟨a2, c2, hv2⟩ := hs1.form; obtain ⟨n2, hn2⟩ : ∃ n2, n2 = (c :: r).length := ⟨_, rfl⟩; rw [← hn2] at hv2; subst hv2; have HV1 := hid hs1; clear hs1 hn2)
          | (go_at_call 49; go_loud (refine (HNX.out _ _ hst.out HV1.out).mono ?_; rintro e w1 ⟨⟨n1, rfl⟩, hg1⟩; have HT1 := hid (tk_kept hown.out hst.out hg1); have HB1 := hid (hbel.out.grown hg1 hbel.out.size (fun k hk => by injection hk with hk; omega)); clear hg1)))
        go_ret3
        refine ⟨_, by rw [HB.out]; rfl, ?_, HB1.out.alloc HB1.out.size _⟩
        rw [HB.out]
        exact (OwnT.nil 88 0 _).tk
      | inl y =>
        obtain ⟨ts', k, st'⟩ := y
        simp only [NxE] at HNX
        have hk := HKP.out _ _ _ rfl
        rw [HLR.out] at hk
        have HST' := hid (HSTEP.out _ _ _ rfl)
        have hrl := hrd.out.2.1
        clear HBAD HSTEP HKP
        obtain ⟨q', hq'⟩ : ∃ q', q' = q + k := ⟨_, rfl⟩
        have wq : (q : Int) + (k : Int) = (q' : Int) := by omega
        have HQ := hid hq'
        obtain ⟨k0, k1⟩ := hk
        have hq1 : q' ≤ n := by omega
        have hq2 : q < q' := by omega
        clear k0 k1
        by_cases hts : ts' = []
        · have HST2 := hid (show Read17 b q' ts st' from by have := HST'.out (by rw [hts]; simp); rwa [hts, List.append_nil, ← hq'] at this)
          have HNX2 := hid (fun v' w' h1 h2 => HNX.out v' w' h1 h2)
          have HT0 := hid (fun (t : Int × Int) (h : ts' = if t = (0, 0) then [] else [t]) => (show t = (0, 0) from by
            by_cases ht : t = (0, 0)
            · exact ht
            · rw [if_neg ht, hts] at h; cases h))
          clear HST' hts hq'
          go_wp2_with (first
            | (with_reducible refine at_from ?_; refine wpList_from _ rfl _ _ 23 rfl .u8 5 1 Try.underlying23 Try.infoU8 (.slice a1 n cap1) b rfl (HS.out.below hbel.out) .i64 (q : Int) rfl (by omega) (by have := HN.out; omega) ?_; rw [Int.toNat_natCast, HCR.out]; intro v1 hs1; obtain ⟨a2, c2, hv2⟩ := hs1.form; obtain ⟨n2, hn2⟩ : ∃ n2, n2 = (c :: r).length := ⟨_, rfl⟩; rw [← hn2] at hv2; subst hv2; have HV1 := hid hs1; clear hs1 hn2)
            | (go_at_call 49; go_loud (refine (HNX.out _ _ hst.out HV1.out).mono ?_; rintro e w1 ⟨⟨t, ht, rfl⟩, hs1, hg1⟩; obtain rfl := HT0.out t ht; have HS1 := hid hs1; have hq0 := neq_zero 0 0; rw [decide_eq_true rfl] at hq0; have HT1 := hid (tk_kept hown.out hst.out hg1); have HB1 := hid (hbel.out.grown hg1 hbel.out.size (fun k hk => by injection hk with hk; omega)); clear hg1; clear hs1 ht)))
          go_roundw
          case rel => exact ⟨q', ts, st', by omega, by go_num, rfl, HT1.out.alloc _, HS1.out.below (by (repeat (first | exact Below.refl _ _ | exact below_drewN _ | refine Below.drew ?_ | refine Below.alloc ?_ (by simp) _ | refine Below.setCell ?_ (by simp) _ | refine below_drewN' ?_ _))), HB1.out.alloc HB1.out.size _, HST2.out⟩
          case measure => simp [intOf]; omega
        · have HT0 := hid (fun (t : Int × Int) (h : ts' = if t = (0, 0) then [] else [t]) => (show decide (t = (0, 0)) = false ∧ Read17 b q' (ts ++ [t]) st' from by
            by_cases ht : t = (0, 0)
            · rw [if_pos ht] at h; exact absurd h hts
            · rw [if_neg ht] at h
              have := HST'.out (by rw [h]; simp)
              rw [h, ← hq'] at this
              exact ⟨decide_eq_false ht, this⟩))
          have HLT := hid (show ts.length + 1 ≤ 200000 by omega)
          have HWB := hid hbel.out.size
          clear HST' hts hq'
          go_wp2_with (first
            | (at_builtin; go_loud (refine wpList_appT _ rfl _ _ 61 rfl w.heap.size 88 16 iT zT Try.underlying61 hi0 hz0 hz1 hz2 (by rw [hzv]; rfl) _ ts rfl ((HT1.out.alloc _).alloc _) _ (tp, tq) rfl (by have hbx := Box.made (w1.alloc (.cells #[.int .i64 tp, .int .i64 tq] 88)) 88 [.int .i64 tp, .int .i64 tq]; rw [show (w1.alloc (.cells #[.int .i64 tp, .int .i64 tq] 88)).heap.size = w1.heap.size + 1 from by simp] at hbx; exact ⟨hbx.cell 0, hbx.cell 1⟩) (by have := HLT.out; unfold maxLen; omega) (by have := HLT.out; omega) (by have := HB1.out.size; simp; omega) ?_); intro g6 c6 w6 ho6 hb6 hg6; have HT6 := hid ho6; have HS6 := hid ((HS1.out.below (w' := (w1.alloc (.cells #[.int .i64 tp, .int .i64 tq] 88)).alloc (.cells #[.int .i64 tp, .int .i64 tq] 88)) (by (repeat (first | exact Below.refl _ _ | exact below_drewN _ | refine Below.drew ?_ | refine Below.alloc ?_ (by simp) _ | refine Below.setCell ?_ (by simp) _ | refine below_drewN' ?_ _)))).grownT ((HT1.out.alloc _).alloc _) hg6 (by decide)); have HB6 := hid (((HB1.out.alloc HB1.out.size _).alloc (by have := HB1.out.size; simp; omega) _).trans hb6); clear ho6 hb6 hg6)
            | (with_reducible refine at_from ?_; refine wpList_from _ rfl _ _ 23 rfl .u8 5 1 Try.underlying23 Try.infoU8 (.slice a1 n cap1) b rfl (HS.out.below hbel.out) .i64 (q : Int) rfl (by omega) (by have := HN.out; omega) ?_; rw [Int.toNat_natCast, HCR.out]; intro v1 hs1; obtain ⟨a2, c2, hv2⟩ := hs1.form; obtain ⟨n2, hn2⟩ : ∃ n2, n2 = (c :: r).length := ⟨_, rfl⟩; rw [← hn2] at hv2; subst hv2; have HV1 := hid hs1; clear hs1 hn2)
            | (go_at_call 49; go_loud (refine (HNX.out _ _ hst.out HV1.out).mono ?_; rintro e w1 ⟨⟨⟨tp, tq⟩, ht, rfl⟩, hs1, hg1⟩; obtain ⟨hz6, hr6⟩ := HT0.out (tp, tq) ht; have HR6 := hid hr6; have HS1 := hid hs1; have hq0 := neq_zero tp tq; rw [hz6] at hq0; have HT1 := hid (tk_kept hown.out hst.out hg1); have HB1 := hid (hbel.out.grown hg1 hbel.out.size (fun k hk => by injection hk with hk; omega)); clear hg1; clear hs1 ht hz6 hr6)))
          go_roundw
          case rel => exact ⟨q', ts ++ [(tp, tq)], st', by omega, by go_num, rfl, HT6.out, HS6.out, HB6.out, HR6.out⟩
          case measure => simp [intOf]; omega
    · obtain rfl : q = n := by omega
      have HB := hid (show tokS b = .inl ts from rd17_end (by have := hrd.out; rwa [HN.out] at this))
      go_wp2
      go_ret3
      exact ⟨_, by rw [HB.out]; rfl, by rw [HB.out]; exact hown.out.tk, hbel.out⟩
end Go.Proofs.Ytobicndpkojgiaa

/-! Te18c -/
namespace Go.Proofs.Ytobicndpkojgiaa
open Go.RowKit
set_option linter.unusedVariables false

/-- l[i:] of tokens -/
theorem wpList_fromT {P : Program} (w : World) {ops : Array Oper} {rest : List Oper} {o : Oper} {a : Act} {Q : Exit → Act → World → Prop} (hgd : o.guard = none) (x lo : Operand) (t : TypeId)
    (ho : o.op = .slice t x (some lo) none none) (e : TypeId) (bytes : Nat) (z : Value) (ht : P.underlying t = some (.slice e)) (hinfo : (P.info? e).map (fun i => (i.zero, i.size, i.bytes)) = some (some z, 2, bytes))
    (v : Value) (xs : List (Int × Int)) (hx : a.eval x = v) (hs : Tk w v xs) (kk : IntKind) (i : Int) (hlo : a.eval lo = .int kk i) (h0 : 0 ≤ i) (h1 : i ≤ xs.length)
    (h : ∀ v', Tk w v' (xs.drop i.toNat) → wpList P ops Q rest (a.put o.dst v') w) : wpList P ops Q (o :: rest) a w := by
  obtain ⟨l, rfl⟩ := Int.eq_ofNat_of_zero_le h0
  rw [Int.toNat_natCast] at h
  obtain ⟨i, hi', hz0, hz1, hz2⟩ := info_parts hinfo
  obtain ⟨ad, cap, rfl, hl, hm, hc⟩ := hs
  have hrun : (Instr.sliceAt t (.slice ad xs.length cap) (some (.int kk (l : Int))) none none).run P w = .ok (.slice (if cap = l then ad else ad.map (·.add (l * 2))) (xs.length - l) (cap - l)) w := by
    have e1 : (0 : Int) ≤ (l : Int) ∧ (l : Int) ≤ (xs.length : Int) := by omega
    simp [Instr.sliceAt, Instr.slice, run_underlying ht, Instr.sliceBounds, Instr.sliceBound, asIntOf, sizeOf, typeInfo, hi', hz1, e1]
    intro hx; omega
  refine wpList_plain hgd fun K hK => ?_
  unfold Oper.wp
  simp [execOp, ho, hx, hlo, hrun, Result.andThen]
  refine hK _ _ (h _ ?_)
  have hlen : (xs.drop l).length = xs.length - l := by simp
  rcases hc with hc0 | ⟨b, off, rfl, hbb, hc⟩
  · exact ⟨_, cap - l, by rw [hlen], by rw [hlen]; omega, by omega, .inl (by omega)⟩
  · refine ⟨_, cap - l, by rw [hlen], by rw [hlen]; omega, by omega, ?_⟩
    by_cases h0 : cap = l
    · exact .inl (by omega)
    · refine .inr ⟨b, off + l * 2, by rw [if_neg h0]; simp [Addr.add], fun h0 => hbb (by rw [hlen] at h0; omega), fun j hj => ?_⟩
      rw [hlen] at hj
      have hg : (xs.drop l).getD j (0, 0) = xs.getD (l + j) (0, 0) := by simp only [List.getD_eq_getElem?_getD, List.getElem?_drop]
      rw [hg, show off + l * 2 + j * 2 = off + (l + j) * 2 by omega]
      exact hc (l + j) (by omega)
theorem Tk.at {w : World} {v : Value} {l : List (Int × Int)} (h : Tk w v l) (h0 : 0 < l.length) : ∃ b o c, v = .slice (some ⟨b, o, none⟩) l.length c ∧ b < w.heap.size ∧ ∀ i, i < l.length →
      w.cell? ⟨b, o + i * 2, none⟩ = some (.int .i64 (l.getD i (0, 0)).1) ∧ w.cell? ⟨b, o + i * 2 + 1, none⟩ = some (.int .i64 (l.getD i (0, 0)).2) := by
  obtain ⟨a, c, rfl, hl, -, h⟩ := h
  rcases h with rfl | ⟨b, o, rfl, hb, h⟩
  · omega
  · exact ⟨b, o, c, rfl, hb h0, h⟩
theorem loadUn {a b c d : Value} {B : Nat} {w : World} (h : Box 93 [a, b, c, d] B w) : (loadVar 93 ⟨B, 0, none⟩).run Try.prog w = .ok (.agg #[a, b, c, d]) w := by
  have k0 := h.cell 0
  have k1 := h.cell 1
  have k2 := h.cell 2
  have k3 := h.cell 3
  simp only [List.getElem?_cons_zero, List.getElem?_cons_succ] at k0 k1 k2 k3
  simp [go_sem, k0, k1, k2, k3]
theorem Box.four {t : TypeId} {a b c d : Value} {B : Nat} {w : World} (h : Box t [a, b, c, d] B w) (x y z u : Value) : Box t [x, y, z, u] B ((((w.setCell ⟨B, 0, none⟩ x).setCell ⟨B, 1, none⟩ y).setCell ⟨B, 2, none⟩ z).setCell ⟨B, 3, none⟩ u) :=
  (((h.set 0 x).set 1 y).set 2 z).set 3 u
theorem below_four {base B : Nat} {a b c d : Value} {w0 w : World} (h : Below base w0 w) (hB : base ≤ B) : Below base w0 ((((w.setCell ⟨B, 0, none⟩ a).setCell ⟨B, 1, none⟩ b).setCell ⟨B, 2, none⟩ c).setCell ⟨B, 3, none⟩ d) :=
  (((h.setCell hB _).setCell hB _).setCell hB _).setCell hB _
/-- the first unit, how many tokens it has; or an error -/
def nxS : List (Int × Int) → (Int × Int) × (Int × Int) × Nat × Int
  | [] => ((0, 0), (0, 0), 0, 0)
  | [t] => if isAcc t = true then ((0, 0), (0, 0), 0, 2) else (t, (0, 0), 1, 0)
  | t :: n :: _ => if isAcc t = true then (t, n, 2, 0) else (t, (0, 0), 1, 0)
def NxU (x : (Int × Int) × (Int × Int) × Nat × Int) : Ending := .returned (.tuple #[.agg #[.int .i64 x.1.1, .int .i64 x.1.2, .int .i64 x.2.1.1, .int .i64 x.2.1.2], .int .i64 (x.2.2.1 : Int), .int .i64 x.2.2.2])
set_option maxHeartbeats 2000000 in
set_option maxRecDepth 100000 in
theorem teNext (v : Value) (a p : Int) (R : List (Int × Int)) (w : World) (h : Tk w v ((a, p) :: R)) : Calls Try.prog 50 #[v] w fun e w' => e = NxU (nxS ((a, p) :: R)) ∧ Below w.heap.size w w' := by
  have HT := hid h
  obtain ⟨b1, o1, c1, rfl, hb1, hc⟩ := h.at (by simp)
  have HB0 := hid (show Below w.heap.size w (w.alloc (.cells #[.int .i64 0, .int .i64 0, .int .i64 0, .int .i64 0] 93)) from by (repeat (first | exact Below.refl _ _ | exact below_drewN _ | refine Below.drew ?_ | refine Below.alloc ?_ (by simp) _ | refine Below.setCell ?_ (by simp) _ | refine below_drewN' ?_ _)))
  have HX0 := hid (Box.made w 93 [.int .i64 0, .int .i64 0, .int .i64 0, .int .i64 0])
  have HT0 := hid (HT.out.below HB0.out)
  have HLT := hid hb1
  have hd := hc 0 (by simp)
  simp only [Nat.zero_mul, Nat.add_zero, List.getD_cons_zero] at hd
  obtain ⟨g0, g1⟩ := hd
  have HD0 := hid g0
  have HD1 := hid g1
  have d0 := (HB0.out.cell (p := ⟨b1, o1, none⟩) hb1).trans g0
  have d1 := (HB0.out.cell (p := ⟨b1, o1 + 1, none⟩) hb1).trans g1
  clear g0 g1
  have HA := hid (fun w => teIsAccent a p w)
  obtain ⟨A, hA⟩ : ∃ A, A = isAcc (a, p) := ⟨_, rfl⟩
  have HAA := hid hA
  rw [← hA] at HA
  obtain ⟨n, hn⟩ : ∃ n, n = ((a, p) :: R).length := ⟨_, rfl⟩
  have HN := hid hn
  have hn0 : 0 < n := by rw [hn]; simp
  rw [← hn] at hc HT HT0 ⊢
  cases A with
  | false =>
    have HR := hid (show nxS ((a, p) :: R) = ((a, p), (0, 0), 1, 0) from by cases R <;> simp [nxS, ← hA])
    clear hn hA hc h
    go_enter Try.func50, Try.ntmps50
    go_wp2_with (go_at_call 69; refine (HA.out _).mono ?_; rintro e w1 ⟨rfl, hb1⟩; have HB1 := hid (HB0.out.trans (hb1.mono HB0.out.size)); have HX1 := hid (HX0.out.below hb1 HX0.out.lt); have HL1 := hid hb1; have HT1 := hid (HT0.out.below hb1); have z0 := HX1.out.cell 0; have z1 := HX1.out.cell 1; have z2 := HX1.out.cell 2; have z3 := HX1.out.cell 3; have f0 := HX1.out.ice 0; have f1 := HX1.out.ice 1; have f2 := HX1.out.ice 2; have f3 := HX1.out.ice 3; simp only [List.getElem?_cons_zero, List.getElem?_cons_succ] at z0 z1 z2 z3; have d2 := (HB1.out.cell (p := ⟨b1, o1, none⟩) HLT.out).trans HD0.out; have d3 := (HB1.out.cell (p := ⟨b1, o1 + 1, none⟩) HLT.out).trans HD1.out; clear hb1)
    refine bodyPost_ret (results_tk3 rfl rfl (loadUn (HX1.out.four (.int .i64 a) (.int .i64 p) (.int .i64 0) (.int .i64 0)))) rfl ⟨by rw [HR.out]; rfl, below_four HB1.out (Nat.le_refl _)⟩
  | true =>
    cases R with
    | nil =>
      have HR := hid (show nxS [(a, p)] = ((0, 0), (0, 0), 0, 2) from by simp [nxS, ← hA])
      obtain rfl : n = 1 := by rw [hn]; rfl
      clear hn hA hc h
      go_enter Try.func50, Try.ntmps50
      go_wp2_with (go_at_call 69; refine (HA.out _).mono ?_; rintro e w1 ⟨rfl, hb1⟩; have HB1 := hid (HB0.out.trans (hb1.mono HB0.out.size)); have HX1 := hid (HX0.out.below hb1 HX0.out.lt); have HL1 := hid hb1; have HT1 := hid (HT0.out.below hb1); have z0 := HX1.out.cell 0; have z1 := HX1.out.cell 1; have z2 := HX1.out.cell 2; have z3 := HX1.out.cell 3; have f0 := HX1.out.ice 0; have f1 := HX1.out.ice 1; have f2 := HX1.out.ice 2; have f3 := HX1.out.ice 3; simp only [List.getElem?_cons_zero, List.getElem?_cons_succ] at z0 z1 z2 z3; have d2 := (HB1.out.cell (p := ⟨b1, o1, none⟩) HLT.out).trans HD0.out; have d3 := (HB1.out.cell (p := ⟨b1, o1 + 1, none⟩) HLT.out).trans HD1.out; clear hb1)
      refine bodyPost_ret (results_tk3 rfl rfl (loadUn (HX1.out.four (.int .i64 0) (.int .i64 0) (.int .i64 0) (.int .i64 0)))) rfl ⟨by rw [HR.out]; rfl, below_four HB1.out (Nat.le_refl _)⟩
    | cons m R =>
      obtain ⟨mb, mr⟩ := m
      have HR := hid (show nxS ((a, p) :: (mb, mr) :: R) = ((a, p), (mb, mr), 2, 0) from by simp [nxS, ← hA])
      have hd := hc 1 (by rw [hn]; simp)
      simp only [Nat.one_mul, List.getD_cons_succ, List.getD_cons_zero] at hd
      obtain ⟨g2, g3⟩ := hd
      have HD2 := hid g2
      have HD3 := hid g3
      have hn1 : 1 < n := by rw [hn]; simp
      have en : ((n : Int) == 1) = false := by simp; omega
      have in1 : (1 : Int) < (n : Int) := by omega
      clear hn hA hc h g2 g3
      go_enter Try.func50, Try.ntmps50
      go_wp2_with (go_at_call 69; refine (HA.out _).mono ?_; rintro e w1 ⟨rfl, hb1⟩; have HB1 := hid (HB0.out.trans (hb1.mono HB0.out.size)); have HX1 := hid (HX0.out.below hb1 HX0.out.lt); have HL1 := hid hb1; have HT1 := hid (HT0.out.below hb1); have z0 := HX1.out.cell 0; have z1 := HX1.out.cell 1; have z2 := HX1.out.cell 2; have z3 := HX1.out.cell 3; have f0 := HX1.out.ice 0; have f1 := HX1.out.ice 1; have f2 := HX1.out.ice 2; have f3 := HX1.out.ice 3; simp only [List.getElem?_cons_zero, List.getElem?_cons_succ] at z0 z1 z2 z3; have d2 := (HB1.out.cell (p := ⟨b1, o1, none⟩) HLT.out).trans HD0.out; have d3 := (HB1.out.cell (p := ⟨b1, o1 + 1, none⟩) HLT.out).trans HD1.out; clear hb1)
      have d4 := (HB1.out.cell (p := ⟨b1, o1 + 2, none⟩) HLT.out).trans HD2.out
      have d5 := (HB1.out.cell (p := ⟨b1, o1 + 2 + 1, none⟩) HLT.out).trans HD3.out
      clear d0 d1
      have k2 : (({ heap := w1.heap, tape := w1.tape, drawn := w1.drawn + 1, os := w1.os, output := w1.output } : World)).cell? ⟨b1, o1, none⟩ = some (.int .i64 a) := d2
      have k3 : (({ heap := w1.heap, tape := w1.tape, drawn := w1.drawn + 1, os := w1.os, output := w1.output } : World)).cell? ⟨b1, o1 + 1, none⟩ = some (.int .i64 p) := d3
      have k4 : (({ heap := w1.heap, tape := w1.tape, drawn := w1.drawn + 1, os := w1.os, output := w1.output } : World)).cell? ⟨b1, o1 + 2, none⟩ = some (.int .i64 mb) := d4
      have k5 : (({ heap := w1.heap, tape := w1.tape, drawn := w1.drawn + 1, os := w1.os, output := w1.output } : World)).cell? ⟨b1, o1 + 2 + 1, none⟩ = some (.int .i64 mr) := d5
      go_still_tail 7, (by kernel_rfl)
      change wpList _ _ _ _ _ w1.drew
      have HBq := hid (Below.refl w1.heap.size w1).drew
      have HXq := hid (HX1.out.below HBq.out HX1.out.lt)
      clear d2 d3 d4 d5 z0 z1 z2 z3 f0 f1 f2 f3
      generalize w1.drew = wq at HBq HXq ⊢
      have f0 := HXq.out.ice 0
      have f1 := HXq.out.ice 1
      have f2 := HXq.out.ice 2
      have f3 := HXq.out.ice 3
      have z0 := HXq.out.cell 0
      have z1 := HXq.out.cell 1
      have z2 := HXq.out.cell 2
      have z3 := HXq.out.cell 3
      simp only [List.getElem?_cons_zero, List.getElem?_cons_succ] at z0 z1 z2 z3
      go_wp2
      refine bodyPost_ret (results_tk3 rfl rfl (loadUn (HXq.out.four (.int .i64 a) (.int .i64 p) (.int .i64 mb) (.int .i64 mr)))) rfl ⟨by rw [HR.out]; rfl, below_four (HB1.out.trans (HBq.out.mono HB1.out.size)) (Nat.le_refl _)⟩
end Go.Proofs.Ytobicndpkojgiaa

/-! Te18d -/
namespace Go.Proofs.Ytobicndpkojgiaa
open Go.RowKit
set_option linter.unusedVariables false

/-- what was read of so many tokens, ahead of what the others mean -/
def aheadM (q : Nat) (s : List Int) : List Int ⊕ (Nat × Int) → List Int ⊕ (Nat × Int)
  | .inl l => .inl (s ++ l)
  | .inr (i, e) => .inr (q + i, e)
theorem aheadM_cons (q : Nat) (s : List Int) (k : Nat) (c : Int) (x : List Int ⊕ (Nat × Int)) : aheadM q s (consM k c x) = aheadM (q + k) (s ++ [c]) x := by
  cases x with
  | inl l => simp [aheadM, consM]
  | inr y => obtain ⟨i, e⟩ := y; simp [aheadM, consM, Nat.add_assoc]
theorem aheadM_nil (x : List Int ⊕ (Nat × Int)) : aheadM 0 [] x = x := by
  cases x with
  | inl l => simp [aheadM]
  | inr y => obtain ⟨i, e⟩ := y; simp [aheadM]
theorem acc_no {p : Int} (h : (markS p).2.2 = true) : (getS16 103 p).2 = false := by
  unfold markS at h
  obtain ⟨h1, h2⟩ := fndS_tt (p := fun r : Rg => r.f == p) (l := tabAccents) h
  have h3 : (fndS (fun r => r.f == p) tabAccents).1.f = p := by simpa using h2
  have := (acc_row h1).2.1
  rwa [h3] at this
def inT (t : Int × Int) : Prop := inI t.1 = true ∧ inI t.2 = true
theorem inT_zero : inT (0, 0) := ⟨by decide, by decide⟩
theorem mean_step (t : Int × Int) (R : List (Int × Int)) (hi : ∀ x ∈ t :: R, inT x) {u b : Int × Int} {k : Nat} {e : Int} (h : nxS (t :: R) = (u, b, k, e)) :
    (e = 2 ∧ meanS (t :: R) = .inr (0, 2)) ∨ (e = 0 ∧ 1 ≤ k ∧ k ≤ (t :: R).length ∧ inT u ∧ inT b ∧ ∀ c ok, uniS u b = (c, ok) → meanS (t :: R) = if ok = true then consM k c (meanS ((t :: R).drop k)) else .inr (0, 13)) := by
  have ht := hi t (by simp)
  cases hA : isAcc t with
  | false =>
    have e1 : nxS (t :: R) = (t, (0, 0), 1, 0) := by cases R <;> simp [nxS, hA]
    rw [e1] at h
    simp only [Prod.mk.injEq] at h
    obtain ⟨rfl, rfl, rfl, rfl⟩ := h
    refine .inr ⟨rfl, Nat.le_refl _, by simp, ht, inT_zero, fun c ok hc => ?_⟩
    unfold uniS at hc
    rw [if_neg (by rw [hA]; decide)] at hc
    have e2 : ¬ (t.1 = 103 ∧ (markS t.2).2.2 = true) := by
      rintro ⟨a1, a2⟩
      unfold isAcc at hA
      rw [a1, a2] at hA
      exact absurd hA (by decide)
    by_cases h0 : t.1 = 0
    · rw [if_pos h0] at hc
      simp only [Prod.mk.injEq] at hc
      obtain ⟨rfl, rfl⟩ := hc
      rw [if_pos rfl, mean_one R (.inl ⟨h0, rfl⟩)]
      rfl
    · rw [if_neg h0] at hc
      cases ok with
      | true => rw [if_pos rfl, mean_one R (.inr ⟨h0, hc⟩)]; rfl
      | false =>
        rw [if_neg (by simp)]
        cases R with
        | nil => simp only [meanS, if_neg h0, hc, if_neg e2, Bool.false_eq_true, if_false]
        | cons n q => simp only [meanS, if_neg h0, hc, if_neg e2, Bool.false_eq_true, if_false]
  | true =>
    obtain ⟨a1, a2⟩ : t.1 = 103 ∧ (markS t.2).2.2 = true := by
      unfold isAcc at hA
      simpa using hA
    have a0 : ¬ t.1 = 0 := by omega
    have a3 : (getS16 t.1 t.2).2 = false := by rw [a1]; exact acc_no a2
    cases R with
    | nil =>
      have e1 : nxS [t] = ((0, 0), (0, 0), 0, 2) := by simp [nxS, hA]
      rw [e1] at h
      simp only [Prod.mk.injEq] at h
      obtain ⟨rfl, rfl, rfl, rfl⟩ := h
      exact .inl ⟨rfl, by simp only [meanS, if_neg a0, a3, if_pos (And.intro a1 a2), Bool.false_eq_true, if_false]⟩
    | cons n q =>
      have e1 : nxS (t :: n :: q) = (t, n, 2, 0) := by simp [nxS, hA]
      rw [e1] at h
      simp only [Prod.mk.injEq] at h
      obtain ⟨rfl, rfl, rfl, rfl⟩ := h
      refine .inr ⟨rfl, by omega, by simp, ht, hi n (by simp), fun c ok hc => ?_⟩
      unfold uniS accd at hc
      rw [if_pos hA] at hc
      have ed : (t :: n :: q).drop 2 = q := rfl
      rw [ed]
      simp only [meanS, if_neg a0, a3, if_pos (And.intro a1 a2), Bool.false_eq_true, if_false]
      by_cases hn : n = (0, 32)
      · rw [if_pos hn] at hc
        simp only [Prod.mk.injEq] at hc
        obtain ⟨rfl, rfl⟩ := hc
        rw [if_pos (by rw [hn]; exact ⟨rfl, rfl⟩), if_pos rfl]
      · rw [if_neg hn] at hc
        rw [if_neg (fun h => hn (Prod.ext h.1 h.2))]
        have eh : (n.1 = 102 ∨ n.1 = 6) ↔ hasL n.1 = true := by unfold hasL; simp
        unfold letOf at hc
        by_cases b1 : hasL n.1 = true
        · rw [if_pos b1] at hc
          by_cases b2 : (getS16 n.1 n.2).2 = true
          · rw [if_pos b2] at hc
            by_cases b3 : letB (getS16 n.1 n.2).1 = true
            · rw [if_pos b3] at hc
              simp only [if_true] at hc
              rw [hc]
              cases ok with
              | true => rw [if_pos ⟨eh.2 b1, b2, b3, rfl⟩, if_pos rfl]
              | false => rw [if_neg (fun h => by cases h.2.2.2), if_neg (by simp)]
            · rw [if_neg b3] at hc
              simp only [Bool.false_eq_true, if_false, Prod.mk.injEq] at hc
              rw [if_neg (fun h => b3 h.2.2.1), if_neg (by rw [← hc.2]; simp)]
          · rw [if_neg b2] at hc
            simp only [Bool.false_eq_true, if_false, Prod.mk.injEq] at hc
            rw [if_neg (fun h => b2 h.2.1), if_neg (by rw [← hc.2]; simp)]
        · rw [if_neg b1] at hc
          simp only [Bool.false_eq_true, if_false, Prod.mk.injEq] at hc
          rw [if_neg (fun h => b1 (eh.1 h.1)), if_neg (by rw [← hc.2]; simp)]

/-- looking up: no scalar; or the scalar, if it is there -/
theorem MapU.none {M : Nat} {w : World} (h : MapU M w) {u b : Int × Int} (hu : inT u) (hb : inT b) {c : Int} (hc : uniS u b = (c, false)) :
    (Instr.lookup 91 (.map (some M)) (.agg #[.int .i64 u.1, .int .i64 u.2, .int .i64 b.1, .int .i64 b.2]) true).run Try.prog w = .ok (.tuple #[.int .i64 0, .bool false]) w := by
  rcases h.look hu.1 hu.2 hb.1 hb.2 with h | ⟨c', h1, -⟩
  · exact h
  · rw [hc] at h1
    cases h1
theorem MapU.some {M : Nat} {w : World} (h : MapU M w) {u b : Int × Int} (hu : inT u) (hb : inT b) {c : Int} (hc : uniS u b = (c, true)) :
    ∃ ok : Bool, (Instr.lookup 91 (.map (some M)) (.agg #[.int .i64 u.1, .int .i64 u.2, .int .i64 b.1, .int .i64 b.2]) true).run Try.prog w = .ok (.tuple #[.int .i64 (if ok then c else 0), .bool ok]) w := by
  rcases h.look hu.1 hu.2 hb.1 hb.2 with h | ⟨c', h1, h⟩
  · exact ⟨false, h⟩
  · have e : c' = c := by
      have := h1.symm.trans hc
      simpa using this
    subst e
    exact ⟨true, h⟩
theorem own_nomapI {M e base : Nat} {w : World} {k : IntKind} {es : Array MapEntry} {clock : Nat} {v : Value} {xs : List Int} (hm : w.heap[M]? = some (.map es clock)) (ho : Own k e base w v xs) : v.ownBlock ≠ some M := fun e => by
  rcases ho.2 with ⟨rfl, -⟩ | ⟨g, cap, cur, rfl, -, hh, -⟩
  · simp [Value.ownBlock] at e
  · have e' : g = M := by simpa [Value.ownBlock] using e
    subst e'
    rw [hm] at hh
    cases hh
theorem MapU.apart {M e base : Nat} {w : World} {k : IntKind} {v : Value} {xs : List Int} (h : MapU M w) (ho : Own k e base w v xs) : v.ownBlock ≠ Option.some M := by
  obtain ⟨es, clock, hm, -⟩ := h
  exact own_nomapI hm ho
theorem MapU.grown {M e base : Nat} {w w' : World} {k : IntKind} {v : Value} {xs : List Int} (h : MapU M w) (ho : Own k e base w v xs) (hg : w.grownBy w' v.ownBlock) : MapU M w' :=
  h.same (hg.block M h.lt (fun e => h.apart ho e.symm))
theorem MapU.keeps {M e base : Nat} {w w' : World} {k : IntKind} {v : Value} {xs : List Int} (h : MapU M w) (ho : Own k e base w v xs) (hg : w.grownBy w' (Option.some M)) : Own k e base w' v xs :=
  World.ownsRow.kept ho hg (.inr (h.apart ho))
set_option maxHeartbeats 4000000 in
set_option maxRecDepth 10000 in
theorem teMeaning (v : Value) (l : List (Int × Int)) (w : World) (h : Tk w v l) (hi : ∀ x ∈ l, inT x) (hl : l.length ≤ 200000) : Calls Try.prog 30 #[v] w fun e w' =>
    ∃ x, e = .returned (.tuple #[x, .int .i64 (r3At (meanS l)), .int .i64 (r3E (meanS l))]) ∧ Own .i64 3 w.heap.size w' x (r3L (meanS l)) ∧ Below w.heap.size w w' := by
  have HT := hid h
  obtain ⟨a1, cap1, rfl, q1, -, -⟩ := h
  obtain ⟨n, hn⟩ : ∃ n, n = l.length := ⟨_, rfl⟩
  have HN := hid hn
  have HI := hid hi
  rw [← hn] at q1 hl HT ⊢
  clear hn hi
  go_enter Try.func30, Try.ntmps30
  go_wp2_with (fail)
  simp only [run_makeMap, Result.andThen]
  go_wp2
  go_loopw [2, 3, 4] (fun lv av ev wr => ∃ (q : Nat) (s : List Int), q ≤ n ∧ s.length ≤ q ∧ av = .int .i64 (q : Int) ∧ ev = .int .i64 0 ∧ Hid (Own .i64 3 w.heap.size wr lv s) ∧ Hid (MapU w.heap.size wr) ∧ Hid (Below w.heap.size w wr) ∧ Hid (meanS l = aheadM q s (meanS (l.drop q)))) (fun _ av _ _ => n - (intOf av).toNat)
  case atStart => exact ⟨0, [], Nat.zero_le _, Nat.le_refl _, rfl, rfl, Own.nil _ _ _ _, MapU.nil (heap_alloc_new w (.map #[] 0)), by (repeat (first | exact Below.refl _ _ | exact below_drewN _ | refine Below.drew ?_ | refine Below.alloc ?_ (by simp) _ | refine Below.setCell ?_ (by simp) _ | refine below_drewN' ?_ _)), (aheadM_nil _).symm⟩
  case round =>
    obtain ⟨q, s, hq, hsl, rfl, rfl, hown, hmap, hbel, hrd⟩ := hrel
    by_cases hlt : q < n
    · obtain ⟨t0, R, hcr⟩ : ∃ t R, l.drop q = t :: R := by
        cases hd : l.drop q with
        | nil => exact absurd (List.drop_eq_nil_iff.1 hd) (by have := HN.out; omega)
        | cons t R => exact ⟨t, R, rfl⟩
      have HCR := hid hcr
      have hir : ∀ x ∈ t0 :: R, inT x := fun x hx => HI.out x (by rw [← hcr] at hx; exact List.mem_of_mem_drop hx)
      have HNX := hid (fun v' (w' : World) (h1 : Tk w' v' (t0 :: R)) => teNext v' t0.1 t0.2 R w' h1)
      have HLR := hid (show (t0 :: R).length = n - q by rw [← hcr, List.length_drop, ← HN.out])
      obtain ⟨⟨⟨u1, u2⟩, ⟨n1, n2⟩, k, e⟩, hY⟩ : ∃ y, y = nxS (t0 :: R) := ⟨_, rfl⟩
      have HMS := hid (mean_step t0 R hir hY.symm)
      have HNX := hid (fun v' (w' : World) (h1 : Tk w' v' (t0 :: R)) => (show Calls Try.prog 50 #[v'] w' fun e' w'' => e' = .returned (.tuple #[.agg #[.int .i64 u1, .int .i64 u2, .int .i64 n1, .int .i64 n2], .int .i64 (k : Int), .int .i64 e]) ∧ Below w'.heap.size w' w'' from (HNX.out v' w' h1).mono (fun e' w'' h2 => ⟨by rw [h2.1, show ((t0.1, t0.2) :: R) = t0 :: R from rfl, ← hY]; rfl, h2.2⟩)))
      clear hir hY
      rw [hcr] at hrd
      clear hcr
      have HSC := hid (fun w => teScalar u1 u2 n1 n2 w)
      obtain ⟨⟨c, ok0⟩, hc⟩ : ∃ y, y = uniS (u1, u2) (n1, n2) := ⟨_, rfl⟩
      have HC := hid hc.symm
      rw [← hc] at HSC
      simp only at HSC
      clear hc
      rcases HMS.out with ⟨rfl, hm⟩ | ⟨rfl, hk1, hk2, hiu, hib, hm⟩
      · have HP := hid (show meanS l = .inr (q, 2) from by rw [hrd.out, hm]; rfl)
        clear hm HMS HSC HC
        go_wp2_with (first | (with_reducible refine at_from ?_; refine wpList_fromT _ rfl _ _ _ rfl 88 16 (.agg #[.int .i64 0, .int .i64 0]) Try.underlying61 Try.infoTk (.slice a1 n cap1) l rfl (HT.out.below hbel.out) .i64 (q : Int) rfl (by omega) (by have := HN.out; omega) ?_; rw [Int.toNat_natCast, HCR.out]; intro v1 hs1; obtain ⟨a2, c2, hv2⟩ := hs1.form; obtain ⟨m2, hm2⟩ : ∃ m2, m2 = (t0 :: R).length := ⟨_, rfl⟩; rw [← hm2] at hv2; subst hv2; have HV1 := hid hs1; clear hs1 hm2) | (go_at_call 50; go_loud (refine (HNX.out _ _ HV1.out).mono ?_; rintro e w1 ⟨rfl, hb1⟩; have HB1 := hid (hbel.out.trans (hb1.mono hbel.out.size)); have HM1 := hid (hmap.out.below hb1); have HO1 := hid (hown.out.below hb1); have HM2 := hid (HM1.out.below (Below.alloc (Below.refl _ _) (Nat.le_refl _) (.cells #[.int .i64 u1, .int .i64 u2, .int .i64 n1, .int .i64 n2] 93))); have HB2 := hid (HB1.out.alloc HB1.out.size (.cells #[.int .i64 u1, .int .i64 u2, .int .i64 n1, .int .i64 n2] 93)); have HX2 := hid (show Box 93 [.int .i64 u1, .int .i64 u2, .int .i64 n1, .int .i64 n2] w1.heap.size (w1.alloc (.cells #[.int .i64 u1, .int .i64 u2, .int .i64 n1, .int .i64 n2] 93)) from Box.made w1 93 [_, _, _, _]); have HO2 := hid (HO1.out.alloc (.cells #[.int .i64 u1, .int .i64 u2, .int .i64 n1, .int .i64 n2] 93)); have HBW := hid (show w.heap.size ≤ w1.heap.size from HB1.out.size); clear hb1)))
        go_ret3
        exact ⟨_, by rw [HP.out]; rfl, by rw [HP.out]; exact Own.nil .i64 3 _ _, HB2.out⟩
      · have HIU := hid hiu
        have HIB := hid hib
        have hm' := hm c ok0 HC.out
        clear hiu hib hm HMS
        cases ok0 with
        | false =>
          have HP := hid (show meanS l = .inr (q, 13) from by rw [hrd.out, hm', if_neg (by simp)]; rfl)
          clear hm' hk1 hk2
          go_wp2_with (first | (with_reducible refine at_from ?_; refine wpList_fromT _ rfl _ _ _ rfl 88 16 (.agg #[.int .i64 0, .int .i64 0]) Try.underlying61 Try.infoTk (.slice a1 n cap1) l rfl (HT.out.below hbel.out) .i64 (q : Int) rfl (by omega) (by have := HN.out; omega) ?_; rw [Int.toNat_natCast, HCR.out]; intro v1 hs1; obtain ⟨a2, c2, hv2⟩ := hs1.form; obtain ⟨m2, hm2⟩ : ∃ m2, m2 = (t0 :: R).length := ⟨_, rfl⟩; rw [← hm2] at hv2; subst hv2; have HV1 := hid hs1; clear hs1 hm2) | (go_at_call 50; go_loud (refine (HNX.out _ _ HV1.out).mono ?_; rintro e w1 ⟨rfl, hb1⟩; have HB1 := hid (hbel.out.trans (hb1.mono hbel.out.size)); have HM1 := hid (hmap.out.below hb1); have HO1 := hid (hown.out.below hb1); have HM2 := hid (HM1.out.below (Below.alloc (Below.refl _ _) (Nat.le_refl _) (.cells #[.int .i64 u1, .int .i64 u2, .int .i64 n1, .int .i64 n2] 93))); have HB2 := hid (HB1.out.alloc HB1.out.size (.cells #[.int .i64 u1, .int .i64 u2, .int .i64 n1, .int .i64 n2] 93)); have HX2 := hid (show Box 93 [.int .i64 u1, .int .i64 u2, .int .i64 n1, .int .i64 n2] w1.heap.size (w1.alloc (.cells #[.int .i64 u1, .int .i64 u2, .int .i64 n1, .int .i64 n2] 93)) from Box.made w1 93 [_, _, _, _]); have HO2 := hid (HO1.out.alloc (.cells #[.int .i64 u1, .int .i64 u2, .int .i64 n1, .int .i64 n2] 93)); have HBW := hid (show w.heap.size ≤ w1.heap.size from HB1.out.size); clear hb1)) | (at_lookup; refine wpList_lookK rfl _ _ 91 rfl w.heap.size _ rfl rfl (MapU.none (u := (u1, u2)) (b := (n1, n2)) HM2.out HIU.out HIB.out HC.out) ?_) | (go_at_call 51; go_loud (refine (HSC.out _).mono ?_; rintro e w3 ⟨rfl, hb3⟩; have HB3 := hid (HB2.out.trans (hb3.mono HB2.out.size)); have HM3 := hid (HM2.out.below hb3); have HO3 := hid (HO2.out.below hb3); have HX3 := hid (HX2.out.below hb3 HX2.out.lt); have y0 := HX3.out.cell 0; have y1 := HX3.out.cell 1; have y2 := HX3.out.cell 2; have y3 := HX3.out.cell 3; simp only [List.getElem?_cons_zero, List.getElem?_cons_succ] at y0 y1 y2 y3; clear hb3)))
          go_ret3
          exact ⟨_, by rw [HP.out]; rfl, by rw [HP.out]; exact Own.nil .i64 3 _ _, HB3.out⟩
        | true =>
          obtain ⟨q', hq'⟩ : ∃ q', q' = q + k := ⟨_, rfl⟩
          have wq : (q : Int) + (k : Int) = (q' : Int) := by omega
          have hq1 : q' ≤ n := by have := HLR.out; omega
          have hq2 : q < q' := by omega
          have HP := hid (show meanS l = aheadM q' (s ++ [c]) (meanS (l.drop q')) from by rw [hrd.out, hm', if_pos rfl, aheadM_cons, ← hq', ← HCR.out, List.drop_drop, ← hq'])
          have HQ := hid hq'
          clear hm' hk1 hk2 hq'
          go_wp2_with (first | (with_reducible refine at_from ?_; refine wpList_fromT _ rfl _ _ _ rfl 88 16 (.agg #[.int .i64 0, .int .i64 0]) Try.underlying61 Try.infoTk (.slice a1 n cap1) l rfl (HT.out.below hbel.out) .i64 (q : Int) rfl (by omega) (by have := HN.out; omega) ?_; rw [Int.toNat_natCast, HCR.out]; intro v1 hs1; obtain ⟨a2, c2, hv2⟩ := hs1.form; obtain ⟨m2, hm2⟩ : ∃ m2, m2 = (t0 :: R).length := ⟨_, rfl⟩; rw [← hm2] at hv2; subst hv2; have HV1 := hid hs1; clear hs1 hm2) | (go_at_call 50; go_loud (refine (HNX.out _ _ HV1.out).mono ?_; rintro e w1 ⟨rfl, hb1⟩; have HB1 := hid (hbel.out.trans (hb1.mono hbel.out.size)); have HM1 := hid (hmap.out.below hb1); have HO1 := hid (hown.out.below hb1); have HM2 := hid (HM1.out.below (Below.alloc (Below.refl _ _) (Nat.le_refl _) (.cells #[.int .i64 u1, .int .i64 u2, .int .i64 n1, .int .i64 n2] 93))); have HB2 := hid (HB1.out.alloc HB1.out.size (.cells #[.int .i64 u1, .int .i64 u2, .int .i64 n1, .int .i64 n2] 93)); have HX2 := hid (show Box 93 [.int .i64 u1, .int .i64 u2, .int .i64 n1, .int .i64 n2] w1.heap.size (w1.alloc (.cells #[.int .i64 u1, .int .i64 u2, .int .i64 n1, .int .i64 n2] 93)) from Box.made w1 93 [_, _, _, _]); have HO2 := hid (HO1.out.alloc (.cells #[.int .i64 u1, .int .i64 u2, .int .i64 n1, .int .i64 n2] 93)); have HBW := hid (show w.heap.size ≤ w1.heap.size from HB1.out.size); clear hb1)) | (at_lookup; obtain ⟨ok, hlk⟩ := MapU.some (u := (u1, u2)) (b := (n1, n2)) HM2.out HIU.out HIB.out HC.out; refine wpList_lookK rfl _ _ 91 rfl w.heap.size _ rfl rfl hlk ?_; clear hlk) | (go_at_call 51; go_loud (refine (HSC.out _).mono ?_; rintro e w3 ⟨rfl, hb3⟩; have HB3 := hid (HB2.out.trans (hb3.mono HB2.out.size)); have HM3 := hid (HM2.out.below hb3); have HO3 := hid (HO2.out.below hb3); have HX3 := hid (HX2.out.below hb3 HX2.out.lt); have y0 := HX3.out.cell 0; have y1 := HX3.out.cell 1; have y2 := HX3.out.cell 2; have y3 := HX3.out.cell 3; simp only [List.getElem?_cons_zero, List.getElem?_cons_succ] at y0 y1 y2 y3; clear hb3)) | (at_mapUpdate; go_loud (obtain ⟨w4, hst4, hg4, hm4⟩ := MapU.store (a := u1) (p := u2) (b := n1) (r := n2) HM3.out HIU.out.1 HIU.out.2 HIB.out.1 HIB.out.2 HC.out; refine wpList_storeK rfl _ _ _ 91 rfl w.heap.size (uv u1 u2 n1 n2) (.int .i64 c) rfl rfl rfl hst4 ?_; have HM4 := hid hm4; have HO4 := hid (HM3.out.keeps HO3.out hg4); have HB4 := hid (HB3.out.grown hg4 HB3.out.size (fun k hk => by injection hk with hk; omega)); clear hst4 hg4 hm4)) | (have _u := HM4; clear _u; at_builtin; go_loud (go_loud (refine wpList_app _ rfl _ _ 22 rfl .i64 w.heap.size 3 8 Try.underlying22 Try.infoI64 _ s [c] rfl (HO4.out.alloc _) _ rfl (one_sl (by first | simp | rfl)) (by unfold maxLen; simp; omega) (by simp; omega) (by have := HB4.out.size; simp; omega) ?_); intro v5 w5 ho5 hg5 hb5 hn5; have HO5 := hid ho5; have HB5 := hid ((HB4.out.alloc HB4.out.size _).trans hb5); have HM5 := hid ((HM4.out.below (Below.alloc (Below.refl _ _) (Nat.le_refl _) _)).grown (HO4.out.alloc _) hg5); clear ho5 hg5 hb5 hn5)) | (have _u := HM2; clear _u; at_builtin; go_loud (go_loud (refine wpList_app _ rfl _ _ 22 rfl .i64 w.heap.size 3 8 Try.underlying22 Try.infoI64 _ s [if ok = true then c else 0] rfl (HO2.out.alloc _) _ rfl (one_sl (by first | simp | rfl)) (by unfold maxLen; simp; omega) (by simp; omega) (by have := HBW.out; simp; omega) ?_); intro v5 w5 ho5 hg5 hb5 hn5; have HO5 := hid ho5; have HB5 := hid ((HB2.out.alloc HB2.out.size _).trans hb5); have HM5 := hid ((HM2.out.below (Below.alloc (Below.refl _ _) (Nat.le_refl _) _)).grown (HO2.out.alloc _) hg5); clear ho5 hg5 hb5 hn5)))
          · go_roundw
            case rel => exact ⟨q', s ++ [c], by omega, by simp; omega, by go_num, rfl, HO5.out, HM5.out, HB5.out, HP.out⟩
            case measure => simp [intOf]; omega
          · obtain rfl : ok = true := by have hk := ‹(!ok) = false›; simpa using hk
            have ho6 := HO5.out
            simp only [if_true] at ho6
            have HO5 := hid ho6
            clear ho6
            go_roundw
            case rel => exact ⟨q', s ++ [c], by omega, by simp; omega, by go_num, rfl, HO5.out, HM5.out, HB5.out, HP.out⟩
            case measure => simp [intOf]; omega
    · obtain rfl : q = n := by omega
      have HB := hid (show meanS l = .inl s from by rw [hrd.out, HN.out, List.drop_length]; simp [meanS, aheadM])
      go_wp2
      go_ret3
      exact ⟨_, by rw [HB.out]; rfl, by rw [HB.out]; exact hown.out, hbel.out⟩
end Go.Proofs.Ytobicndpkojgiaa

/-! Te18e -/
namespace Go.Proofs.Ytobicndpkojgiaa
open Go.RowKit
set_option linter.unusedVariables false

theorem inI_small {x : Int} (h0 : -100000 ≤ x) (h1 : x ≤ 100000) : inI x = true := by
  unfold inI
  rw [decide_eq_true_iff]
  omega
theorem fndI_in (p : Int → Bool) : ∀ l : List Int, (∀ x ∈ l, inI x = true) → inI (fndI p l).1 = true
  | [], _ => (show inI 0 = true by decide)
  | x :: l, h => by
    unfold fndI
    split
    · exact h x (by simp)
    · exact fndI_in p l fun y hy => h y (by simp [hy])
theorem byFin_in (f : Int) (wide : Bool) : inI (byFinS f wide).1 = true := fndI_in _ _ (by decide)
theorem pl_in {set : Int} (hs : inI set = true) {b : List Int} (hu : U8 b) {t : Int × Int} {n : Nat} (h : plS set b = .inl (t, n)) : inT t := by
  match b with
  | [] => cases h
  | c :: r =>
    obtain ⟨c0, c1⟩ := hu c (by simp)
    have hsd : sdS c = 0 ∨ sdS c = 128 := by unfold sdS; split <;> simp
    revert h
    simp only [plS]
    split
    · rename_i hc
      split
      · intro h; cases h
      · split
        · intro h
          simp only [Sum.inl.injEq, Prod.mk.injEq] at h
          obtain ⟨rfl, -⟩ := h
          exact ⟨hs, inI_small (by omega) (by omega)⟩
        · cases r with
          | nil => intro h; cases h
          | cons d q =>
            simp only
            split
            · rename_i hd
              intro h
              simp only [Sum.inl.injEq, Prod.mk.injEq] at h
              obtain ⟨rfl, -⟩ := h
              exact ⟨hs, inI_small (by omega) (by omega)⟩
            · intro h; cases h
    · intro h; cases h
theorem set_in {l : List Int} (h : ∀ x ∈ l, inI x = true) {i : Nat} {v : Int} (hv : inI v = true) : ∀ x ∈ l.set i v, inI x = true := fun x hx => by
  rcases List.mem_or_eq_of_mem_set hx with hx | rfl
  · exact h x hx
  · exact hv
theorem es_in {st s : Rd} (hg : ∀ x ∈ st.g, inI x = true) {b : List Int} {n : Nat} (h : esS st b = .inl (s, n)) : ∀ x ∈ s.g, inI x = true := by
  match b with
  | [] => cases h
  | c :: r =>
    revert h
    simp only [esS]
    repeat' split
    all_goals (first | (intro h; cases h; done) | (intro h; simp only [Sum.inl.injEq, Prod.mk.injEq] at h; obtain ⟨rfl, -⟩ := h; first | exact hg | exact set_in hg (byFin_in _ _)))
theorem getD_in {l : List Int} (h : ∀ x ∈ l, inI x = true) (i : Nat) : inI (l.getD i 0) = true := by
  rw [List.getD_eq_getElem?_getD]
  cases hi : l[i]? with
  | none => decide
  | some x => exact h x (List.mem_of_getElem? hi)
theorem tkS_in {st s : Rd} (hg : ∀ x ∈ st.g, inI x = true) {b : List Int} (hu : U8 b) {ts : List (Int × Int)} {n : Nat} (h : tkS st b = .inl (ts, n, s)) : (∀ t ∈ ts, inT t) ∧ (∀ x ∈ s.g, inI x = true) ∧ ts.length ≤ 1 := by
  match b with
  | [] => cases h
  | c :: r =>
    obtain ⟨c0, c1⟩ := hu c (by simp)
    revert h
    simp only [tkS]
    split
    · intro h
      simp only [Sum.inl.injEq, Prod.mk.injEq] at h
      obtain ⟨rfl, -, rfl⟩ := h
      exact ⟨fun t ht => by rw [List.mem_singleton.1 ht]; exact ⟨(show inI 0 = true by decide), inI_small (by omega) (by omega)⟩, hg, by simp⟩
    · split
      · intro h
        simp only [Sum.inl.injEq, Prod.mk.injEq] at h
        obtain ⟨rfl, -, rfl⟩ := h
        exact ⟨(fun t ht => by cases ht), hg, by simp⟩
      · split
        · cases he : esS st r with
          | inr e => intro h; cases h
          | inl y =>
            obtain ⟨s', n'⟩ := y
            intro h
            simp only [Sum.inl.injEq, Prod.mk.injEq] at h
            obtain ⟨rfl, -, rfl⟩ := h
            exact ⟨(fun t ht => by cases ht), es_in hg he, by simp⟩
        · split
          · generalize hp : plS (st.g.getD (if c = 29 then 3 else 2) 0) r = P
            cases P with
            | inr e => intro h; cases h
            | inl y =>
              obtain ⟨t', n'⟩ := y
              intro h
              simp only [Sum.inl.injEq, Prod.mk.injEq] at h
              obtain ⟨rfl, -, rfl⟩ := h
              exact ⟨fun t ht => by rw [List.mem_singleton.1 ht]; exact pl_in (getD_in hg _) hu.tail hp, hg, by simp⟩
          · split
            · generalize hp : plS (st.g.getD (if 126 < c then st.right else st.left) 0) (c :: r) = P
              cases P with
              | inr e => intro h; cases h
              | inl y =>
                obtain ⟨t', n'⟩ := y
                intro h
                simp only [Sum.inl.injEq, Prod.mk.injEq] at h
                obtain ⟨rfl, -, rfl⟩ := h
                exact ⟨fun t ht => by rw [List.mem_singleton.1 ht]; exact pl_in (getD_in hg _) hu hp, hg, by simp⟩
            · intro h; cases h
theorem tkF_in : ∀ (f : Nat) (st s : Rd) (b : List Int) (l : List (Int × Int)), (∀ x ∈ st.g, inI x = true) → U8 b → tkF f st b = .inl (l, s) → (∀ t ∈ l, inT t) ∧ l.length ≤ b.length
  | 0, st, s, b, l, hg, hu, h => by
    have h' : (Sum.inl ([], st) : (List (Int × Int) × Rd) ⊕ (Nat × Int)) = .inl (l, s) := by cases b <;> exact h
    simp only [Sum.inl.injEq, Prod.mk.injEq] at h'
    obtain ⟨rfl, -⟩ := h'
    exact ⟨(fun t ht => by cases ht), by simp⟩
  | f + 1, st, s, b, l, hg, hu, h => by
    by_cases hb : b = []
    · subst hb
      rw [tkF_nil] at h
      simp only [Sum.inl.injEq, Prod.mk.injEq] at h
      obtain ⟨rfl, -⟩ := h
      exact ⟨(fun t ht => by cases ht), by simp⟩
    · rw [tkF_step hb] at h
      generalize ht : tkS st b = T at h
      cases T with
      | inr e => cases h
      | inl y =>
        obtain ⟨ts, n, s1⟩ := y
        obtain ⟨h1, h2, h3⟩ := tkS_in hg hu ht
        obtain ⟨n0, n1⟩ := tk_ok ht
        simp only at h
        generalize hr : tkF f s1 (b.drop n) = T at h
        cases T with
        | inr e => obtain ⟨i, e⟩ := e; cases h
        | inl y =>
          obtain ⟨m, z⟩ := y
          simp only [Sum.inl.injEq, Prod.mk.injEq] at h
          obtain ⟨rfl, -⟩ := h
          obtain ⟨h4, h5⟩ := tkF_in f s1 z (b.drop n) m h2 (hu.drop n) hr
          refine ⟨fun t ht => ?_, ?_⟩
          · rcases List.mem_append.1 ht with ht | ht
            · exact h1 t ht
            · exact h4 t ht
          · rw [List.length_append]
            rw [List.length_drop] at h5
            omega
theorem tok_at18 {b : List Int} {i : Nat} {e : Int} (h : tokS b = .inr (i, e)) : e ≠ 0 := by
  unfold tokS at h
  cases ht : tkF b.length rd0 b with
  | inl x => rw [ht] at h; cases h
  | inr x =>
    rw [ht] at h
    cases h
    exact tkF_err _ _ _ _ _ ht
theorem tok_in {b : List Int} (hu : U8 b) {l : List (Int × Int)} (h : tokS b = .inl l) : (∀ t ∈ l, inT t) ∧ l.length ≤ b.length := by
  unfold tokS at h
  generalize ht : tkF b.length rd0 b = T at h
  cases T with
  | inr x => cases h
  | inl y =>
    obtain ⟨m, s⟩ := y
    simp only [Sum.inl.injEq] at h
    subst h
    exact tkF_in _ _ _ _ _ (by decide) hu ht

set_option maxHeartbeats 1000000 in
theorem teReadOwn (HK : ShTokOk) : TReadOwn := by
  intro v b w hs hu hl
  have HK := hid (fun v w h => HK v b w h hu hl)
  have HS := hid hs
  obtain ⟨T, hT⟩ : ∃ T, T = tokS b := ⟨_, rfl⟩
  rw [← hT] at HK
  unfold read18
  rw [← hT]
  cases T with
  | inr x =>
    obtain ⟨i, e⟩ := x
    simp only [tkL, tkAt, tkE] at HK
    have he : e ≠ 0 := tok_at18 hT.symm
    have he2 : (e == 0) = false := by simpa using he
    have he3 : (e != 0) = true := by simpa using he
    clear hs hu hl hT he
    go_enter Try.func13, Try.ntmps13
    go_wp2_with (go_at_call 29; refine (HK.out _ _ HS.out).mono ?_; rintro e w1 ⟨v1, rfl, ho1, hb1⟩; obtain ⟨a1, c1, hv1⟩ := ho1.form; simp only [List.length_nil] at hv1; subst hv1; have HO1 := hid ho1; have HB1 := hid hb1; clear ho1 hb1)
    go_ret3
    exact ⟨_, rfl, Own.nil .i64 3 _ _, HB1.out⟩
  | inl l =>
    obtain ⟨hi, hn⟩ := tok_in hu hT.symm
    have HM := hid (fun v w (h : Tk w v l) => teMeaning v l w h hi (by omega))
    simp only [tkL, tkAt, tkE] at HK
    clear hs hu hl hT hi hn
    go_enter Try.func13, Try.ntmps13
    go_wp2_with (first | (go_at_call 29; refine (HK.out _ _ HS.out).mono ?_; rintro e w1 ⟨v1, rfl, ho1, hb1⟩; obtain ⟨a1, c1, hv1⟩ := ho1.form; obtain ⟨n1, hn1⟩ : ∃ n1, n1 = l.length := ⟨_, rfl⟩; rw [← hn1] at hv1; subst hv1; clear hn1; have HO1 := hid ho1; have HB1 := hid hb1; clear ho1 hb1) | (go_at_call 30; refine (HM.out _ _ HO1.out).mono ?_; rintro e w2 ⟨v2, rfl, ho2, hb2⟩; have HO2 := hid (ho2.mono HB1.out.size); have HB2 := hid (HB1.out.trans (hb2.mono HB1.out.size)); clear ho2 hb2))
    go_ret3
    exact ⟨_, rfl, HO2.out, HB2.out⟩
end Go.Proofs.Ytobicndpkojgiaa

/-! Te18f -/
namespace Go.Proofs.Ytobicndpkojgiaa
open Go.RowKit
set_option linter.unusedVariables false

theorem teIsByte (c : Int) (w : World) : Calls Try.prog 26 #[.int .i64 c] w fun e w' => e = .returned (.bool (ctlB c)) ∧ w = w' := by
  by_cases h8 : c = 8
  · subst h8
    go_enter Try.func26, Try.ntmps26
    go_wp2
    go_ret
    exact ⟨rfl, rfl⟩
  by_cases h10 : c = 10
  · subst h10
    go_enter Try.func26, Try.ntmps26
    go_wp2
    go_ret
    exact ⟨rfl, rfl⟩
  by_cases h12 : c = 12
  · subst h12
    go_enter Try.func26, Try.ntmps26
    go_wp2
    go_ret
    exact ⟨rfl, rfl⟩
  by_cases h13 : c = 13
  · subst h13
    go_enter Try.func26, Try.ntmps26
    go_wp2
    go_ret
    exact ⟨rfl, rfl⟩
  by_cases h32 : c = 32
  · subst h32
    go_enter Try.func26, Try.ntmps26
    go_wp2
    go_ret
    exact ⟨rfl, rfl⟩
  have HR := hid (show ctlB c = false from by unfold ctlB; simp [h8, h10, h12, h13, h32])
  have t8 : (c == 8) = false := by simpa using h8
  have t10 : (c == 10) = false := by simpa using h10
  have t12 : (c == 12) = false := by simpa using h12
  have t13 : (c == 13) = false := by simpa using h13
  have t32 : (c == 32) = false := by simpa using h32
  go_enter Try.func26, Try.ntmps26
  go_wp2
  go_ret
  exact ⟨by rw [HR.out]; rfl, rfl⟩
theorem u8_same {x : Int} (h0 : 0 ≤ x) (h1 : x ≤ 255) : IntKind.u8.wrap x = x := by simp only [IntKind.wrap, IntKind.bits, IntKind.signed]; simp; omega
/-- a position of a set: its byte, its two bytes -/
theorem teCharacter {r : Rg} (hr : r ∈ tabCodes) (w : World) : Calls Try.prog 40 #[.int .i64 r.f, .int .i64 r.t] w fun e w' => ∃ x, e = .returned x ∧ Own .u8 5 w.heap.size w' x (bytP r.t) ∧ Below w.heap.size w w' := by
  obtain ⟨-, -, h87, h1, h2, h0, -⟩ := code_row hr
  have HW := hid (fun w => csWide r.f w)
  rw [h87] at HW
  unfold bytP
  generalize r.t = p at *
  generalize r.f = s at *
  obtain ⟨a1, a2⟩ := h1
  by_cases hw : 255 < p
  · rw [decide_eq_true hw] at HW
    rw [if_pos hw]
    have h3 : 33 ≤ p / 256 ∧ p / 256 ≤ 126 := by omega
    obtain ⟨b1, b2⟩ := h3
    have HO := hid (lit_own (k := .u8) (w := w) (base := w.heap.size) (e := 5) (xs := [p / 256, p % 256]) (n := w.heap.size) (len := 2) (cs := #[.int .u8 (p / 256), .int .u8 (p % 256)]) rfl (Nat.le_refl _) rfl rfl (by simp))
    clear h87 h2
    go_enter Try.func40, Try.ntmps40
    go_wp2_with (go_at_call 18; refine (HW.out _).mono ?_; rintro e wl ⟨rfl, rfl⟩)
    go_ret
    exact ⟨_, rfl, HO.out, by (repeat (first | exact Below.refl _ _ | exact below_drewN _ | refine Below.drew ?_ | refine Below.alloc ?_ (by simp) _ | refine Below.setCell ?_ (by simp) _ | refine below_drewN' ?_ _))⟩
  · rw [decide_eq_false hw] at HW
    rw [if_neg hw]
    have h3 : p ≤ 126 := by omega
    have h4 : p % 256 = p := by omega
    have HO := hid (lit_own (k := .u8) (w := w) (base := w.heap.size) (e := 5) (xs := [p]) (n := w.heap.size) (len := 1) (cs := #[.int .u8 p]) rfl (Nat.le_refl _) rfl rfl (by simp))
    clear h87 h2 h4 a1 a2
    go_enter Try.func40, Try.ntmps40
    go_wp2_with (go_at_call 18; refine (HW.out _).mono ?_; rintro e wl ⟨rfl, rfl⟩)
    go_ret
    exact ⟨_, rfl, HO.out, by (repeat (first | exact Below.refl _ _ | exact below_drewN _ | refine Below.drew ?_ | refine Below.alloc ?_ (by simp) _ | refine Below.setCell ?_ (by simp) _ | refine below_drewN' ?_ _))⟩
theorem set_inI {s : Int} (h : s ∈ tabSets ++ [103]) : inI s = true := by
  have : ∀ x ∈ tabSets ++ [103], inI x = true := by decide
  exact this s h
theorem esc_ok {s : Int} (h : s ∈ tabSets ++ [103]) : escE 0 s = 0 ∧ escL 0 s = escP 0 s := by
  have h1 := (fin_of h).2.1
  have e : escE 0 s = 0 := by unfold escE; rw [if_pos (by omega), if_neg (by omega)]
  exact ⟨e, by unfold escL; rw [if_pos e]⟩
theorem teDesignation (HE : ShEscOk) {s : Int} (hs : s ∈ tabSets ++ [103]) (w : World) : Calls Try.prog 60 #[.int .i64 s] w fun e w' => ∃ x, e = .returned x ∧ Own .u8 5 w.heap.size w' x (escP 0 s) ∧ Below w.heap.size w w' := by
  have HX := hid (fun w => HE 0 s w (by decide) (set_inI hs))
  rw [(esc_ok hs).1, (esc_ok hs).2] at HX
  clear HE hs
  go_enter Try.func60, Try.ntmps60
  go_wp2_with (go_at_call 75; refine (HX.out _).mono ?_; rintro e w1 ⟨v1, rfl, ho1, hb1⟩; have HO1 := hid ho1; have HB1 := hid hb1; clear ho1 hb1)
  go_ret
  exact ⟨_, rfl, HO1.out, HB1.out⟩
theorem loadPc {a b : Value} {B : Nat} {w : World} (h : Box 56 [a, b] B w) : (loadVar 56 ⟨B, 0, none⟩).run Try.prog w = .ok (.agg #[a, b]) w := by
  have k0 := h.cell 0
  have k1 := h.cell 1
  simp only [List.getElem?_cons_zero, List.getElem?_cons_succ] at k0 k1
  simp [go_sem, k0, k1]
theorem far_two {k : IntKind} {e base B : Nat} {w : World} {v : Value} {xs : List Int} {t : TypeId} {cs : List Value} (h : Own k e base w v xs) (hb : Box t cs B w) (ht : t ≠ e) (x y : Value) : Own k e base ((w.setCell ⟨B, 0, none⟩ x).setCell ⟨B, 1, none⟩ y) v xs :=
  (h.set hb ht 0 x).set (hb.set 0 x) ht 1 y
set_option maxHeartbeats 2000000 in
/-- what is written for an accent and what takes it -/
theorem teWriteAccent (HE : ShEscOk) (c g p le : Int) (w : World) (hp0 : 0 ≤ p) (hp1 : p ≤ 127) (hl0 : 0 ≤ le) (hl1 : le ≤ 255) : Calls Try.prog 41 #[.agg #[.int .i64 c, .int .i64 g], .int .i64 p, .int .i64 le] w fun e w' =>
    ∃ x, e = .returned (.agg #[x, .int .i64 (if le = 32 ∨ g = 102 ∨ g = 6 then g else 102)]) ∧ Own .u8 5 w.heap.size w' x (if le = 32 ∨ g = 102 ∨ g = 6 then [p + 128, le] else escP 0 102 ++ [p + 128, le]) ∧ Below w.heap.size w w' := by
  have HH := hid (fun w => teHasLetters g w)
  have HD := hid (fun w => teDesignation HE (s := 102) (by decide) w)
  have HT := hid (Box.made w 54 [.int .i64 c, .int .i64 g])
  obtain ⟨B, hB⟩ : ∃ B, B = w.heap.size := ⟨_, rfl⟩
  have hu1 : IntKind.u8.wrap (p + 128) = p + 128 := u8_same (by omega) (by omega)
  have hu2 : IntKind.u8.wrap le = le := u8_same hl0 hl1
  have h31 : w.heap.size + 1 + 1 = ((w.alloc (.cells #[.int .i64 c, .int .i64 g] 54)).alloc (.cells #[.slice none 0 0, .int .i64 0] 56)).heap.size := by simp
  have HB3 := hid (show Below w.heap.size w (((w.alloc (.cells #[.int .i64 c, .int .i64 g] 54)).alloc (.cells #[.slice none 0 0, .int .i64 0] 56)).alloc (.cells #[.int .u8 (p + 128), .int .u8 le] 5)) from by (repeat (first | exact Below.refl _ _ | exact below_drewN _ | refine Below.drew ?_ | refine Below.alloc ?_ (by first | omega | (simp; done) | (simp; omega)) _ | refine Below.setCell ?_ (by first | (simp; done) | (simp; omega)) _ | refine below_drewN' ?_ _)))
  have HX3 := hid ((box_last w (.cells #[.int .i64 c, .int .i64 g] 54) 56 [.slice none 0 0, .int .i64 0]).alloc (.cells #[.int .u8 (p + 128), .int .u8 le] 5))
  have HS3 := hid (lit_own (k := .u8) (w := ((w.alloc (.cells #[.int .i64 c, .int .i64 g] 54)).alloc (.cells #[.slice none 0 0, .int .i64 0] 56))) (base := w.heap.size) (e := 5) (xs := [p + 128, le]) (n := w.heap.size + 1 + 1) (len := 2) (cs := #[.int .u8 (p + 128), .int .u8 le]) h31 (by simp; omega) rfl rfl (by simp)).sl
  have HOW := hid (fun g' => lit_own (k := .u8) (w := ((w.alloc (.cells #[.int .i64 c, .int .i64 g] 54)).alloc (.cells #[.slice (some ⟨w.heap.size + 1 + 1, 0, none⟩) 2 2, .int .i64 g'] 56))) (base := w.heap.size) (e := 5) (xs := [p + 128, le]) (n := w.heap.size + 1 + 1) (len := 2) (cs := #[.int .u8 (p + 128), .int .u8 le]) (by simp) (by simp; omega) rfl rfl (by simp))
  have HBW := hid (fun g' => ((box_last w (.cells #[.int .i64 c, .int .i64 g] 54) 56 [.slice (some ⟨w.heap.size + 1 + 1, 0, none⟩) 2 2, .int .i64 g']).alloc (.cells #[.int .u8 (p + 128), .int .u8 le] 5)))
  clear HE h31
  by_cases h1 : le = 32 ∨ g = 102 ∨ g = 6
  · rw [if_pos h1, if_pos h1]
    by_cases h2 : le = 32
    · subst h2
      clear h1 HH HD
      go_enter Try.func41, Try.ntmps41
      go_wp2_with (fail)
      exact bodyPost_ret (results_one rfl rfl (loadPc (HBW.out g))) rfl ⟨_, rfl, HOW.out g, by (repeat (first | exact Below.refl _ _ | exact below_drewN _ | refine Below.drew ?_ | refine Below.alloc ?_ (by first | omega | (simp; done) | (simp; omega)) _ | refine Below.setCell ?_ (by first | (simp; done) | (simp; omega)) _ | refine below_drewN' ?_ _))⟩
    · have e2 : (le == 32) = false := by simpa using h2
      have e3 : hasL g = true := by unfold hasL; rcases h1 with h1 | rfl | rfl; exact absurd h1 h2; rfl; rfl
      rw [e3] at HH
      clear h1 HD h2 e3
      go_enter Try.func41, Try.ntmps41
      go_wp2_with (go_at_call 59; refine (HH.out _).mono ?_; rintro e wh ⟨rfl, rfl⟩)
      exact bodyPost_ret (results_one rfl rfl (loadPc (HBW.out g))) rfl ⟨_, rfl, HOW.out g, by (repeat (first | exact Below.refl _ _ | exact below_drewN _ | refine Below.drew ?_ | refine Below.alloc ?_ (by first | omega | (simp; done) | (simp; omega)) _ | refine Below.setCell ?_ (by first | (simp; done) | (simp; omega)) _ | refine below_drewN' ?_ _))⟩
  · rw [if_neg h1, if_neg h1]
    have e2 : (le == 32) = false := by simp; omega
    have e3 : hasL g = false := by unfold hasL; simp; omega
    rw [e3] at HH
    have hE := esc_len 0 102
    have HL := hid hE
    generalize escP 0 102 = E at hE HL HD ⊢
    clear h1 e3
    go_enter Try.func41, Try.ntmps41
    go_wp2_with (first
      | (go_at_call 59; refine (HH.out _).mono ?_; rintro e wh ⟨rfl, rfl⟩)
      | (go_at_call 60; go_loud (refine (HD.out _).mono ?_; rintro e w4 ⟨v4, rfl, ho4, hb4⟩; have HO4 := hid (ho4.mono (show w.heap.size ≤ _ from by simp; omega)); have HX4 := hid (HX3.out.below hb4 HX3.out.lt); have HS4 := hid (HS3.out.below hb4); have HB4 := hid (HB3.out.trans (hb4.mono HB3.out.size)); clear ho4 hb4))
      | (at_builtin; go_loud (refine wpList_app _ rfl _ _ 23 rfl .u8 w.heap.size 5 1 Try.underlying23 Try.infoU8 v4 E [p + 128, le] rfl HO4.out _ rfl HS4.out (by unfold maxLen; simp; omega) (by simp; omega) (by have := HB4.out.size; omega) ?_; intro v5 w5 ho5 hg5 hb5 hn5; have HO5 := hid ho5; have HX5 := hid (HX4.out.grown HO4.out hg5 (by decide)); have HB5 := hid (HB4.out.trans hb5); obtain ⟨a5, c5, hv5⟩ := ho5.sl.form; obtain ⟨n5, hn5'⟩ : ∃ n, n = (E ++ [p + 128, le]).length := ⟨_, rfl⟩; rw [← hn5'] at hv5; subst hv5; have z0 := HX5.out.cell 0; have z1 := HX5.out.cell 1; have f0 := HX5.out.ice 0; have f1 := HX5.out.ice 1; simp only [List.getElem?_cons_zero, List.getElem?_cons_succ] at z0 z1; clear ho5 hg5 hb5 hn5 hn5')))
    exact bodyPost_ret (results_one rfl rfl (loadPc (HX5.out.two (.slice a5 n5 c5) (.int .i64 102)))) rfl ⟨_, rfl, far_two HO5.out HX5.out (by decide) _ _, below_two HB5.out (by omega)⟩
end Go.Proofs.Ytobicndpkojgiaa

/-! Te18g -/
namespace Go.Proofs.Ytobicndpkojgiaa
open Go.RowKit
set_option linter.unusedVariables false

def desS (c : Int) : Int × Bool := fndI (fun s => (findS16 s c).2) tabSets
theorem des_hit {c : Int} {k : Nat} (h : k < tabSets.length) (ha : ∀ i, i < k → (findS16 (tabSets.getD i 0) c).2 = false) (hk : (findS16 (tabSets.getD k 0) c).2 = true) : desS c = (tabSets.getD k 0, true) := fndI_hit (p := fun s => (findS16 s c).2) h ha hk
theorem des_none {c : Int} (ha : ∀ i, i < tabSets.length → (findS16 (tabSets.getD i 0) c).2 = false) : desS c = (0, false) := fndI_none (p := fun s => (findS16 s c).2) ha
set_option maxHeartbeats 4000000 in
set_option maxRecDepth 10000 in
theorem teWriteDesignated (HE : ShEscOk) (c : Int) (w : World) : Calls Try.prog 42 #[.int .i64 c] w fun e w' =>
    ∃ a n cp h, e = .returned (.tuple #[.agg #[.slice a n cp, .int .i64 h], .bool (desS c).2]) ∧ ((desS c).2 = true → h = (desS c).1 ∧ Own .u8 5 w.heap.size w' (.slice a n cp) (escP 0 (desS c).1 ++ bytP (findS16 (desS c).1 c).1)) ∧ Below w.heap.size w w' := by
  have HSE := hid (fun w => apiSets w)
  have HB0 := hid (show Below w.heap.size w (w.alloc (.cells #[.slice none 0 0, .int .i64 0] 56)) from by (repeat (first | exact Below.refl _ _ | exact below_drewN _ | refine Below.drew ?_ | refine Below.alloc ?_ (by first | omega | (simp; done) | (simp; omega)) _ | refine Below.setCell ?_ (by first | (simp; done) | (simp; omega)) _ | refine below_drewN' ?_ _)))
  have HX0 := hid (Box.made w 56 [.slice none 0 0, .int .i64 0])
  have HF := hid (fun s w => csFind s c w)
  have HHIT := hid (fun k (h : k < tabSets.length) ha hk => des_hit (c := c) (k := k) h ha hk)
  have HNON := hid (fun ha => des_none (c := c) ha)
  have HMEM := hid (show ∀ k, k < tabSets.length → tabSets.getD k 0 ∈ tabSets ++ [103] from fun k hk => by
    rw [List.getD_eq_getElem?_getD, List.getElem?_eq_getElem hk]
    exact List.mem_append_left _ (List.getElem_mem hk))
  generalize desS c = D at *
  generalize hT : tabSets = T at *
  have HTS := hid hT
  clear hT
  go_enter Try.func42, Try.ntmps42
  go_wp2_with (go_at_call 24; refine (HSE.out _).mono ?_; rintro e w1 ⟨v1, rfl, ho1, hb1⟩; have HS1 := hid ho1.sl; have HB1 := hid (HB0.out.trans (hb1.mono HB0.out.size)); have HX1 := hid (HX0.out.below hb1 HX0.out.lt); obtain ⟨a1, c1, hv1⟩ := ho1.sl.form; obtain ⟨n1, hn1⟩ : ∃ n1, n1 = T.length := ⟨_, rfl⟩; have HN := hid hn1; rw [← hn1] at hv1; subst hv1; have hml := ho1.sl.len; rw [← hn1] at hml; clear ho1 hb1 hn1)
  go_loopw [3, 10] (fun rv iv wr => ∃ (k : Nat), k ≤ n1 ∧ rv = .bool false ∧ iv = .int .i64 (k : Int) ∧ Hid (Sl .i64 wr (.slice a1 n1 c1) T) ∧ Hid (Box 56 [.slice none 0 0, .int .i64 0] w.heap.size wr) ∧ Hid (Below w.heap.size w wr) ∧ Hid (∀ i, i < k → (findS16 (T.getD i 0) c).2 = false)) (fun _ iv _ => n1 - (intOf iv).toNat)
  case atStart => exact ⟨0, Nat.zero_le _, rfl, rfl, HS1.out, HX1.out, HB1.out, fun i hi => absurd hi (by omega)⟩
  case round =>
    obtain ⟨k, hk, rfl, rfl, hs, hx, hbel, hno⟩ := hrel
    by_cases hlt : k < n1
    · have hs2 := hs.out
      obtain ⟨a', cap', hv', hl', hm', hc'⟩ := hs2
      injection hv' with hv1 hv2 hv3
      rcases hc' with hc' | ⟨b1, o1, hab, hb1, hc⟩
      · exact absurd hc' (by have := HN.out; omega)
      rw [hab] at hv1
      subst hv1
      have d1 := hc k (by have := HN.out; omega)
      have hms := HMEM.out k (by have := HN.out; omega)
      have HH := hid (fun ha => HHIT.out k (by have := HN.out; omega) hno.out ha)
      have HNX := hid (fun (h : (findS16 (T.getD k 0) c).2 = false) => (show ∀ i, i < k + 1 → (findS16 (T.getD i 0) c).2 = false from fun i hi => by
        rcases Nat.lt_or_ge i k with h1 | h1
        · exact hno.out i h1
        · obtain rfl : i = k := by omega
          exact h))
      clear hc hb1 hv2 hv3 hl' hm' hab
      have HDE := hid (fun w => teDesignation HE (s := T.getD k 0) (by rw [HTS.out]; exact hms) w)
      have HFK := hid (fun w => HF.out (T.getD k 0) w)
      generalize T.getD k 0 = s at d1 HH HNX HDE HFK
      obtain ⟨⟨p, ok⟩, hp⟩ : ∃ y, y = findS16 s c := ⟨_, rfl⟩
      rw [← hp] at HFK HH HNX
      simp only at HFK HH HNX
      have HP := hid hp.symm
      cases ok with
      | false =>
        clear hp HH HDE
        go_wp2_with (go_at_call 39; refine (HFK.out _).mono ?_; rintro e w2 ⟨rfl, hb2⟩; have HB2 := hid (hbel.out.trans (hb2.mono hbel.out.size)); have HX2 := hid (hx.out.below hb2 hx.out.lt); have HS2 := hid (hs.out.below hb2); clear hb2)
        go_roundw
        case rel => exact ⟨k + 1, by omega, rfl, by go_num, HS2.out, HX2.out, HB2.out, (by first | exact HNX.out rfl | exact HNX.out trivial)⟩
        case measure => simp [intOf]; omega
      | true =>
        obtain ⟨r, hr, hf, hv, ht⟩ := find_row hp.symm
        have HCH := hid (fun w => teCharacter hr w)
        rw [hf, ht] at HCH
        have HD := hid (HH.out rfl)
        have hE := esc_len 0 s
        have hY := byt_len p
        have HE0 := hid hE
        have HL := hid (show escP 0 s ++ bytP p = escP 0 D.1 ++ bytP (findS16 D.1 c).1 from by rw [HD.out, HP.out])
        generalize escP 0 s = E at HDE HL hE
        generalize bytP p = Y at HCH HL hY
        clear hp HH hr hf hv ht
        go_wp2_with (first
          | (go_at_call 39; refine (HFK.out _).mono ?_; rintro e w2 ⟨rfl, hb2⟩; have HB2 := hid (hbel.out.trans (hb2.mono hbel.out.size)); have HX2 := hid (hx.out.below hb2 hx.out.lt); clear hb2)
          | (go_at_call 60; go_loud (refine (HDE.out _).mono ?_; rintro e w3 ⟨v3, rfl, ho3, hb3⟩; have HO3 := hid (ho3.mono HB2.out.size); have HX3 := hid (HX2.out.below hb3 HX2.out.lt); have HB3 := hid (HB2.out.trans (hb3.mono HB2.out.size)); clear ho3 hb3))
          | (go_at_call 40; go_loud (refine (HCH.out _).mono ?_; rintro e w4 ⟨v4, rfl, ho4, hb4⟩; have HS4 := hid ho4.sl; have HO4 := hid (HO3.out.below hb4); have HX4 := hid (HX3.out.below hb4 HX3.out.lt); have HB4 := hid (HB3.out.trans (hb4.mono HB3.out.size)); clear ho4 hb4))
          | (at_builtin; go_loud (refine wpList_app _ rfl _ _ 23 rfl .u8 w.heap.size 5 1 Try.underlying23 Try.infoU8 v3 E Y rfl HO4.out v4 rfl HS4.out (by unfold maxLen; omega) (by omega) (by have := HB4.out.size; omega) ?_; intro v5 w5 ho5 hg5 hb5 hn5; have HO5 := hid ho5; have HX5 := hid (HX4.out.grown HO4.out hg5 (by decide)); have HB5 := hid (HB4.out.trans hb5); obtain ⟨a5, c5, hv5⟩ := ho5.sl.form; obtain ⟨n5, hn5'⟩ : ∃ n, n = (E ++ Y).length := ⟨_, rfl⟩; rw [← hn5'] at hv5; subst hv5; have z0 := HX5.out.cell 0; have z1 := HX5.out.cell 1; have f0 := HX5.out.ice 0; have f1 := HX5.out.ice 1; simp only [List.getElem?_cons_zero, List.getElem?_cons_succ] at z0 z1; clear ho5 hg5 hb5 hn5 hn5')))
        exact bodyPost_ret (results_two rfl rfl (loadPc (HX5.out.two (.slice a5 n5 c5) (.int .i64 s)))) rfl ⟨_, _, _, _, by rw [HD.out]; rfl, fun _ => ⟨by rw [HD.out], by rw [← HL.out]; exact far_two HO5.out HX5.out (by decide) _ _⟩, below_two HB5.out (by omega)⟩
    · obtain rfl : k = n1 := by omega
      have HD := hid (HNON.out (by rw [← HN.out]; exact hno.out))
      have HX5 := hid hx.out
      have z0 := HX5.out.cell 0
      have z1 := HX5.out.cell 1
      have f0 := HX5.out.ice 0
      have f1 := HX5.out.ice 1
      simp only [List.getElem?_cons_zero, List.getElem?_cons_succ] at z0 z1
      go_wp2
      exact bodyPost_ret (results_two rfl rfl (loadPc (HX5.out.two (.slice none 0 0) (.int .i64 0)))) rfl ⟨_, _, _, _, by rw [HD.out]; rfl, fun h => (by rw [HD.out] at h; cases h), below_two hbel.out (by omega)⟩
end Go.Proofs.Ytobicndpkojgiaa
