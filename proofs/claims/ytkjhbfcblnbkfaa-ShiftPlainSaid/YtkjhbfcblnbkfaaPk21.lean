/- Several texts in one: Sh17i. -/
import Derived.Test.YtkjhbfcblnbkfaaPk20
import Derived.Test.YtkjhbfcblnbkfaaPk15
/-! Sh17i -/
namespace Go.Proofs.Ytkjhbfcblnbkfaa
open Go.RowKit
set_option linter.unusedVariables false

/-- tokens of the call's own stay while the state is written -/
theorem tk_kept {base B : Nat} {st : Rd} {w w' : World} {v : Value} {l : List (Int × Int)} (h : OwnT 30 base w v l) (hst : StI B st w) (hg : w.grownBy w' (some B)) : OwnT 30 base w' v l := by
  refine World.ownsRow.kept h hg ?_
  rcases h.2 with ⟨rfl, -⟩ | ⟨g, cap, cur, rfl, -, hh, -⟩
  · exact .inl rfl
  · refine .inr fun e1 => ?_
    have e2 : B = g := by simpa [Value.ownBlock] using e1.symm
    subst e2
    have hb := hst.box
    unfold Box at hb
    rw [hb] at hh
    injection hh with hh
    injection hh with _ hh
    exact absurd hh (by decide)
theorem StI.grownT {B e base : Nat} {st : Rd} {w w' : World} {v : Value} {l : List (Int × Int)} (hst : StI B st w) (h : OwnT e base w v l) (hg : w.grownBy w' v.ownBlock) (he : 44 ≠ e) : StI B st w' := ⟨hst.box.grownT h hg he, hst.len, hst.left, hst.right⟩
theorem neq_zero (p q : Int) (w : World) : (binOp .neq 30 (.agg #[.int .i64 p, .int .i64 q]) (.agg #[.int .i64 0, .int .i64 0])).run Try.prog w = .ok (.bool (!decide (((p, q) : Int × Int) = (0, 0)))) w := neq_tk p q 0 0 w

set_option maxHeartbeats 4000000 in
set_option maxRecDepth 10000 in
theorem shTokens (HW : WideE) (HF : ByFinE) : ShTokOk := by
  intro v b w hs hu hl
  obtain ⟨iT, hi0, hz0, hz1, hz2⟩ := info_parts Try.infoTk
  obtain ⟨zT, hzv⟩ : ∃ z : Value, z = .agg #[.int .i64 0, .int .i64 0] := ⟨_, rfl⟩
  rw [← hzv] at hz0
  have HS := hid hs
  obtain ⟨a1, cap1, rfl, q1, -, -⟩ := hs
  obtain ⟨n, hn⟩ : ∃ n, n = b.length := ⟨_, rfl⟩
  have HN := hid hn
  have HU := hid hu
  rw [← hn] at q1 hl HS ⊢
  have HST0 := hid (show StI w.heap.size rd0 (w.alloc (.cells #[.int .i64 102, .int .i64 0, .int .i64 103, .int .i64 0, .int .i64 0, .int .i64 2] 44)) from ⟨Box.made w 44 [_, _, _, _, _, _], rfl, by decide, by decide⟩)
  clear hn hu
  go_enter Try.func9, Try.ntmps9
  go_wp2
  go_loopw [2, 3, 4] (fun lv av ev wr => ∃ (q : Nat) (ts : List (Int × Int)) (st : Rd), q ≤ n ∧ av = .int .i64 (q : Int) ∧ ev = .int .i64 0 ∧ Hid (OwnT 30 w.heap.size wr lv ts) ∧ Hid (StI w.heap.size st wr) ∧ Hid (Below w.heap.size w wr) ∧ Hid (Read17 b q ts st)) (fun _ av _ _ => n - (intOf av).toNat)
  case atStart => exact ⟨0, [], rd0, Nat.zero_le _, rfl, rfl, OwnT.nil _ _ _, HST0.out, by (repeat (first | exact Below.refl _ _ | exact below_drewN _ | refine Below.drew ?_ | refine Below.alloc ?_ (by simp) _ | refine Below.setCell ?_ (by simp) _ | refine below_drewN' ?_ _)), rd17_nil b⟩
  case round =>
    obtain ⟨q, ts, st, hq, rfl, rfl, hown, hst, hbel, hrd⟩ := hrel
    by_cases hlt : q < n
    · obtain ⟨c, r, hcr⟩ : ∃ c r, b.drop q = c :: r := ⟨_, _, dropc (by have := HN.out; omega)⟩
      have HCR := hid hcr
      have hu' : U8 (c :: r) := fun x hx => HU.out x (by rw [← hcr] at hx; exact List.mem_of_mem_drop hx)
      have hl' : (c :: r).length ≤ 100000 := by rw [← hcr, List.length_drop]; have := HN.out; omega
      have HNX := hid (fun v' (w' : World) (h1 : StI w.heap.size st w') (h2 : Sl .u8 w' v' (c :: r)) => shNext HW HF w.heap.size st v' c r w' h1 h2 hu' hl')
      have hqb : q < b.length := by have := HN.out; omega
      have HBAD := hid (fun x (h : tkS st (c :: r) = .inr x) => (⟨rd17_bad hrd.out hqb (by rw [hcr]; exact h), tk_err h⟩ : tokS b = .inr (q, x) ∧ x ≠ 0))
      have HSTEP := hid (fun ts' k s (h : tkS st (c :: r) = .inl (ts', k, s)) (h1 : ts'.length ≤ 1) => rd17_step hrd.out hqb (by rw [hcr]; exact h) h1)
      have HKP := hid (fun ts' k s (h : tkS st (c :: r) = .inl (ts', k, s)) => tk_ok h)
      have HLR := hid (show (c :: r).length = n - q by rw [← hcr, List.length_drop, ← HN.out])
      clear hu' hl' hqb hcr
      generalize tkS st (c :: r) = R at HNX HBAD HSTEP HKP
      cases R with
      | inr x =>
        simp only [NxE] at HNX
        obtain ⟨hb, hx⟩ := HBAD.out x rfl
        have HB := hid hb
        have ex : (x != 0) = true := by simpa using hx
        clear HBAD HSTEP HKP hb hx
        go_wp2_with (first
          | (with_reducible refine at_from ?_; refine wpList_from _ rfl _ _ 25 rfl .u8 5 1 Try.underlying25 Try.infoU8 (.slice a1 n cap1) b rfl (HS.out.below hbel.out) .i64 (q : Int) rfl (by omega) (by have := HN.out; omega) ?_; rw [Int.toNat_natCast, HCR.out]; intro v1 hs1; obtain ⟨a2, c2, hv2⟩ := hs1.form; obtain ⟨n2, hn2⟩ : ∃ n2, n2 = (c :: r).length := ⟨_, rfl⟩; rw [← hn2] at hv2; subst hv2; have HV1 := hid hs1; clear hs1 hn2)
          | (go_at_call 14; go_loud (refine (HNX.out _ _ hst.out HV1.out).mono ?_; rintro e w1 ⟨⟨n1, rfl⟩, hg1⟩; have HT1 := hid (tk_kept hown.out hst.out hg1); have HB1 := hid (hbel.out.grown hg1 hbel.out.size (fun k hk => by injection hk with hk; omega)); clear hg1)))
        go_ret3
        refine ⟨_, by rw [HB.out]; rfl, ?_, HB1.out.alloc HB1.out.size _⟩
        rw [HB.out]
        exact (OwnT.nil 30 0 _).tk
      | inl y =>
        obtain ⟨ts', k, st'⟩ := y
        simp only [NxE] at HNX
        have hk := HKP.out _ _ _ rfl
        rw [HLR.out] at hk
        have HST' := hid (HSTEP.out _ _ _ rfl)
        have hrl := hrd.out.2.1
        clear HBAD HSTEP HKP
        obtain ⟨q', hq'⟩ : ∃ q', q' = q + k := ⟨_, rfl⟩
        have wq : (q : Int) + (k : Int) = (q' : Int) := by omega
        have HQ := hid hq'
        obtain ⟨k0, k1⟩ := hk
        have hq1 : q' ≤ n := by omega
        have hq2 : q < q' := by omega
        clear k0 k1
        by_cases hts : ts' = []
        · have HST2 := hid (show Read17 b q' ts st' from by have := HST'.out (by rw [hts]; simp); rwa [hts, List.append_nil, ← hq'] at this)
          have HNX2 := hid (fun v' w' h1 h2 => HNX.out v' w' h1 h2)
          have HT0 := hid (fun (t : Int × Int) (h : ts' = if t = (0, 0) then [] else [t]) => (show t = (0, 0) from by
            by_cases ht : t = (0, 0)
            · exact ht
            · rw [if_neg ht, hts] at h; cases h))
          clear HST' hts hq'
          go_wp2_with (first
            | (with_reducible refine at_from ?_; refine wpList_from _ rfl _ _ 25 rfl .u8 5 1 Try.underlying25 Try.infoU8 (.slice a1 n cap1) b rfl (HS.out.below hbel.out) .i64 (q : Int) rfl (by omega) (by have := HN.out; omega) ?_; rw [Int.toNat_natCast, HCR.out]; intro v1 hs1; obtain ⟨a2, c2, hv2⟩ := hs1.form; obtain ⟨n2, hn2⟩ : ∃ n2, n2 = (c :: r).length := ⟨_, rfl⟩; rw [← hn2] at hv2; subst hv2; have HV1 := hid hs1; clear hs1 hn2)
            | (go_at_call 14; go_loud (refine (HNX.out _ _ hst.out HV1.out).mono ?_; rintro e w1 ⟨⟨t, ht, rfl⟩, hs1, hg1⟩; obtain rfl := HT0.out t ht; have HS1 := hid hs1; have hq0 := neq_zero 0 0; rw [decide_eq_true rfl] at hq0; have HT1 := hid (tk_kept hown.out hst.out hg1); have HB1 := hid (hbel.out.grown hg1 hbel.out.size (fun k hk => by injection hk with hk; omega)); clear hg1; clear hs1 ht)))
          go_roundw
          case rel => exact ⟨q', ts, st', by omega, by go_num, rfl, HT1.out.alloc _, HS1.out.below (by (repeat (first | exact Below.refl _ _ | exact below_drewN _ | refine Below.drew ?_ | refine Below.alloc ?_ (by simp) _ | refine Below.setCell ?_ (by simp) _ | refine below_drewN' ?_ _))), HB1.out.alloc HB1.out.size _, HST2.out⟩
          case measure => simp [intOf]; omega
        · have HT0 := hid (fun (t : Int × Int) (h : ts' = if t = (0, 0) then [] else [t]) => (show decide (t = (0, 0)) = false ∧ Read17 b q' (ts ++ [t]) st' from by
            by_cases ht : t = (0, 0)
            · rw [if_pos ht] at h; exact absurd h hts
            · rw [if_neg ht] at h
              have := HST'.out (by rw [h]; simp)
              rw [h, ← hq'] at this
              exact ⟨decide_eq_false ht, this⟩))
          have HLT := hid (show ts.length + 1 ≤ 200000 by omega)
          have HWB := hid hbel.out.size
          clear HST' hts hq'
          go_wp2_with (first
            | (at_builtin; go_loud (refine wpList_appT _ rfl _ _ 32 rfl w.heap.size 30 16 iT zT Try.underlying32 hi0 hz0 hz1 hz2 (by rw [hzv]; rfl) _ ts rfl ((HT1.out.alloc _).alloc _) _ (tp, tq) rfl (by have hbx := Box.made (w1.alloc (.cells #[.int .i64 tp, .int .i64 tq] 30)) 30 [.int .i64 tp, .int .i64 tq]; rw [show (w1.alloc (.cells #[.int .i64 tp, .int .i64 tq] 30)).heap.size = w1.heap.size + 1 from by simp] at hbx; exact ⟨hbx.cell 0, hbx.cell 1⟩) (by have := HLT.out; unfold maxLen; omega) (by have := HLT.out; omega) (by have := HB1.out.size; simp; omega) ?_); intro g6 c6 w6 ho6 hb6 hg6; have HT6 := hid ho6; have HS6 := hid ((HS1.out.below (w' := (w1.alloc (.cells #[.int .i64 tp, .int .i64 tq] 30)).alloc (.cells #[.int .i64 tp, .int .i64 tq] 30)) (by (repeat (first | exact Below.refl _ _ | exact below_drewN _ | refine Below.drew ?_ | refine Below.alloc ?_ (by simp) _ | refine Below.setCell ?_ (by simp) _ | refine below_drewN' ?_ _)))).grownT ((HT1.out.alloc _).alloc _) hg6 (by decide)); have HB6 := hid (((HB1.out.alloc HB1.out.size _).alloc (by have := HB1.out.size; simp; omega) _).trans hb6); clear ho6 hb6 hg6)
            | (with_reducible refine at_from ?_; refine wpList_from _ rfl _ _ 25 rfl .u8 5 1 Try.underlying25 Try.infoU8 (.slice a1 n cap1) b rfl (HS.out.below hbel.out) .i64 (q : Int) rfl (by omega) (by have := HN.out; omega) ?_; rw [Int.toNat_natCast, HCR.out]; intro v1 hs1; obtain ⟨a2, c2, hv2⟩ := hs1.form; obtain ⟨n2, hn2⟩ : ∃ n2, n2 = (c :: r).length := ⟨_, rfl⟩; rw [← hn2] at hv2; subst hv2; have HV1 := hid hs1; clear hs1 hn2)
            | (go_at_call 14; go_loud (refine (HNX.out _ _ hst.out HV1.out).mono ?_; rintro e w1 ⟨⟨⟨tp, tq⟩, ht, rfl⟩, hs1, hg1⟩; obtain ⟨hz6, hr6⟩ := HT0.out (tp, tq) ht; have HR6 := hid hr6; have HS1 := hid hs1; have hq0 := neq_zero tp tq; rw [hz6] at hq0; have HT1 := hid (tk_kept hown.out hst.out hg1); have HB1 := hid (hbel.out.grown hg1 hbel.out.size (fun k hk => by injection hk with hk; omega)); clear hg1; clear hs1 ht hz6 hr6)))
          go_roundw
          case rel => exact ⟨q', ts ++ [(tp, tq)], st', by omega, by go_num, rfl, HT6.out, HS6.out, HB6.out, HR6.out⟩
          case measure => simp [intOf]; omega
    · obtain rfl : q = n := by omega
      have HB := hid (show tokS b = .inl ts from rd17_end (by have := hrd.out; rwa [HN.out] at this))
      go_wp2
      go_ret3
      exact ⟨_, by rw [HB.out]; rfl, by rw [HB.out]; exact hown.out.tk, hbel.out⟩
end Go.Proofs.Ytkjhbfcblnbkfaa
