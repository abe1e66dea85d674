/- The walk of SetsExact: it answers true and leaves what was there as it was. -/
import Derived.Test.YtgdbjbkmkdkhhaaSetsWakes
import Derived.Test.YtgdbjbkmkdkhhaaOver
namespace Go.Proofs.Ytgdbjbkmkdkhhaa
open Go.RowKit

theorem rowsAt_ru {l : List (List Int)} {p : List Nat} (h : RU l) : RU (rowsAt l p) := fun x hx => by
  obtain ⟨i, _, rfl⟩ := List.mem_map.1 hx
  exact h.get i
theorem rowsAt_len (l : List (List Int)) (p : List Nat) : (rowsAt l p).length = p.length := by simp [rowsAt]
theorem rowsAt_at {l : List (List Int)} {p : List Nat} {k : Nat} (h : k < p.length) : (rowsAt l p).getD k [] = rowAt l (p.getD k 0) := by
  simp [rowsAt, List.getD_eq_getElem?_getD, List.getElem?_eq_getElem h]
/-- what the loop over the result's rows keeps: the rows from k on, the places, what is older -/
def ExRel (B : Nat) (w2 : World) (v3 v5 : Value) (vs : List Value) (rs : List (List Int)) (ps : List Int) (k : Nat) (wr : World) : Prop :=
  wr.ownsRow B 23 1 v3 vs.length vs ∧ (∀ i, k ≤ i → i < rs.length → Own .u8 5 B wr (vs.getD i undef) (rs.getD i [])) ∧ Own .i64 3 B wr v5 ps ∧ Below B w2 wr
theorem ExRel.over {B : Nat} {w2 : World} {v3 v5 : Value} {vs : List Value} {rs : List (List Int)} {ps : List Int} {k : Nat} {wr wz : World} (h : ExRel B w2 v3 v5 vs rs ps k wr) (hl : vs.length = rs.length) (hd : Diff vs) (hk : k < rs.length) (hB : w2.heap.size = B)
    (hg : wr.grownBy wz (vs.getD k undef).ownBlock) : ExRel B w2 v3 v5 vs rs ps (k + 1) wz := by
  obtain ⟨h1, h2, h3, h4⟩ := h
  have ho := OwnRowsD.over (by decide) hl h1 h2 hd hk hg
  have hk2 := h2 k (Nat.le_refl _) hk
  refine ⟨ho.1, ho.2, h3.besides hk2 (by decide) hg, ?_⟩
  exact h4.grown hg (by have := h4.size; omega) (fun b hb => (World.ownsRow.lt hk2 b hb).1)
theorem ExRel.drewN {B : Nat} {w2 : World} {v3 v5 : Value} {vs : List Value} {rs : List (List Int)} {ps : List Int} {k : Nat} {wr : World} (h : ExRel B w2 v3 v5 vs rs ps k wr) (n : Nat) : ExRel B w2 v3 v5 vs rs ps k (wr.drewN n) :=
  ⟨h.1, h.2.1, h.2.2.1, below_drewN' h.2.2.2 n⟩

theorem sv_cell {w : World} {a : Option Addr} {n c : Nat} {vs : List Value} (h : Sv w (.slice a n c) vs) {k : Nat} (hk : k < vs.length) : ∃ b o, a = some ⟨b, o, none⟩ ∧ w.cell? ⟨b, o + k, none⟩ = some (vs.getD k undef) := by
  obtain ⟨a', c', he, h1, -, h2⟩ := h
  injection he with e1 e2 e3
  subst e1 e3
  rcases h2 with h2 | ⟨b, o, h3, -, h4⟩
  · omega
  · exact ⟨b, o, h3, h4 k hk⟩
theorem sl_cell {i : IntKind} {w : World} {a : Option Addr} {n c : Nat} {xs : List Int} (h : Sl i w (.slice a n c) xs) {k : Nat} (hk : k < xs.length) : ∃ b o, a = some ⟨b, o, none⟩ ∧ w.cell? ⟨b, o + k, none⟩ = some (.int i (xs.getD k 0)) := by
  obtain ⟨a', c', he, h1, -, h2⟩ := h
  injection he with e1 e2 e3
  subst e1 e3
  rcases h2 with h2 | ⟨b, o, h3, -, h4⟩
  · omega
  · exact ⟨b, o, h3, h4 k hk⟩
theorem own_form {te tb base : Nat} {w : World} {v : Value} {xss : List (List Int)} (h : OwnRows te tb base w v xss) : ∃ a c, v = .slice a xss.length c := by
  obtain ⟨vs, h1, ⟨a, c, hv, -, -, -⟩, -⟩ := h.rws
  exact ⟨a, c, by rw [hv, h1]⟩

set_option maxHeartbeats 4000000 in
set_option maxRecDepth 100000 in
theorem exactWalk (vl : Value) (l : List (List Int)) (va : Value) (xs : List Int) (vb : Value) (ys : List Int) (w : World) (hl : Rws w vl l) (hul : RU l) (ha : Sl .u8 w va xs) (hua : U8 xs) (hb : Sl .u8 w vb ys) (hub : U8 ys) :
    Calls Try.prog 3 #[vl, va, vb] w fun e w' => e = .returned (.bool true) ∧ Below w.heap.size w w' := by
  obtain ⟨a1, c1, hv1⟩ := ha.form
  obtain ⟨a2, c2, hv2⟩ := hb.form
  have la : Hid (∃ n, n = xs.length) := ⟨_, rfl⟩
  obtain ⟨n1, hn1⟩ : ∃ n, n = xs.length := ⟨_, rfl⟩
  obtain ⟨n2, hn2⟩ : ∃ n, n = ys.length := ⟨_, rfl⟩
  rw [← hn1] at hv1
  rw [← hn2] at hv2
  have HN := hid (show n1 = xs.length ∧ n2 = ys.length from ⟨hn1, hn2⟩)
  have m1 : n1 ≤ 9223372036854775807 := by have := ha.len; omega
  have m2 : n2 ≤ 9223372036854775807 := by have := hb.len; omega
  subst hv1 hv2
  have HL := hid hl
  have HUL := hid hul
  have HA := hid ha
  have HB := hid hb
  have UA := hid hua
  have UB := hid hub
  clear hl hul ha hb hua hub hn1 hn2 la
  cases hh : heavyS l with
  | true =>
    have HH := hid hh
    clear hh
    go_enter Try.func3, Try.ntmps3
    go_wp2_with (go_at_call 7; refine (lawHeavy vl l w HL.out).mono ?_; rw [HH.out]; rintro e w1 ⟨rfl, n0, rfl⟩)
    go_ret
    exact ⟨rfl, by (repeat (first | exact Below.refl _ _ | exact below_drewN _ | refine Below.drew ?_ | refine Below.alloc ?_ (by first | omega | (simp; done) | (simp; omega)) _ | refine Below.setCell ?_ (by first | (simp; done) | (simp; omega)) _ | refine below_drewN' ?_ _))⟩
  | false =>
    have HF := hid (heavyS_false hh)
    have HH := hid hh
    clear hh
    by_cases hbig : 100 < n1 ∨ 100 < n2
    · go_enter Try.func3, Try.ntmps3
      rcases Nat.lt_or_ge 100 n1 with h1 | h1
      · go_wp2_with (go_at_call 7; refine (lawHeavy vl l w HL.out).mono ?_; rw [HH.out]; rintro e w1 ⟨rfl, n0, rfl⟩)
        go_ret
        exact ⟨rfl, by (repeat (first | exact Below.refl _ _ | exact below_drewN _ | refine Below.drew ?_ | refine Below.alloc ?_ (by first | omega | (simp; done) | (simp; omega)) _ | refine Below.setCell ?_ (by first | (simp; done) | (simp; omega)) _ | refine below_drewN' ?_ _))⟩
      · have h2 : 100 < n2 := by omega
        go_wp2_with (go_at_call 7; refine (lawHeavy vl l w HL.out).mono ?_; rw [HH.out]; rintro e w1 ⟨rfl, n0, rfl⟩)
        go_ret
        exact ⟨rfl, by (repeat (first | exact Below.refl _ _ | exact below_drewN _ | refine Below.drew ?_ | refine Below.alloc ?_ (by first | omega | (simp; done) | (simp; omega)) _ | refine Below.setCell ?_ (by first | (simp; done) | (simp; omega)) _ | refine below_drewN' ?_ _))⟩
    · have h1 : n1 ≤ 100 := by omega
      have h2 : n2 ≤ 100 := by omega
      obtain ⟨nl, hnl⟩ : ∃ nl, nl = l.length := ⟨_, rfl⟩
      have HNL := hid hnl
      have hnl60 : nl ≤ 60 := by have := HF.out.1; omega
      clear hnl hbig
      obtain ⟨vsl, ll1, lsv, lrw⟩ := HL.out
      have hvl := lsv
      obtain ⟨al, capl, hvl, -⟩ := hvl
      rw [ll1, ← HNL.out] at hvl
      subst hvl
      rw [← HNL.out] at lrw ll1
      have HSV := hid lsv
      have HVN := hid ll1
      have HRL := hid lrw
      clear lsv ll1 lrw
      go_enter Try.func3, Try.ntmps3
      go_wp2_with (first
        | (go_at_call 7; refine (lawHeavy (.slice al nl capl) l w HL.out).mono ?_; rw [HH.out]; rintro e w1 ⟨rfl, n0, hw1⟩; have HB1 : Hid (Below w.heap.size w w1) := hid (by rw [hw1]; (repeat (first | exact Below.refl _ _ | exact below_drewN _ | refine Below.drew ?_ | refine Below.alloc ?_ (by first | omega | (simp; done) | (simp; omega)) _ | refine Below.setCell ?_ (by first | (simp; done) | (simp; omega)) _ | refine below_drewN' ?_ _))); clear hw1)
        | (go_at_call 8; refine (keepTwinRows (.slice al nl capl) l w1 (HL.out.below HB1.out) (by have := HF.out.1; omega) (fun x hx => by have := HF.out.2 x hx; omega)).mono ?_; rintro e w2 ⟨v2, rfl, ho2, hb2⟩; have HO2 := hid ho2.own.rws; have HB2 := hid (HB1.out.trans (hb2.mono HB1.out.size)); clear ho2 hb2)
        | (go_at_call 9; refine (sortOk v2 l w2 HO2.out HUL.out HF.out.1 HF.out.2).mono ?_; rintro e w3 ⟨v3, p, rfl, hp3, ho3, hb3⟩; have HP3 := hid hp3; have HO3 := hid ho3; have HB3 := hid hb3; clear hp3 ho3 hb3)
        | (go_at_call 10; refine (placeOk v2 l w3 (HO2.out.below HB3.out) HUL.out HF.out.1 HF.out.2).mono ?_; rintro e w4 ⟨v4, p4, rfl, hp4, ho4, hb4⟩; obtain rfl := place_unique HP3.out hp4; have HO4 := hid ho4; have HB4 := hid hb4; clear hp4 ho4 hb4)
        | (go_at_call 11; refine (refPlace (.slice al nl capl) l w4 (HL.out.below (HB2.out.trans ((HB3.out.mono HB2.out.size).trans (HB4.out.mono (Nat.le_trans HB2.out.size HB3.out.size))))) (by have := HF.out.1; omega)).mono ?_; rintro e w5 ⟨v5, p5, rfl, hp5, ho5, hb5⟩; obtain rfl := place_unique HP3.out hp5; have HO5 := hid ho5; have HB5 := hid hb5; clear hp5 ho5 hb5; obtain ⟨a5, c5, hv5⟩ := HO5.out.sl.form; rw [castL_len, HP3.out.len, ← HNL.out] at hv5; obtain ⟨a3, c3, hv3⟩ := own_form HO3.out.own; rw [rowsAt_len, HP3.out.len, ← HNL.out] at hv3; subst hv5 hv3; have HW5 := hid (HB3.out.trans ((HB4.out.mono HB3.out.size).trans (HB5.out.mono (Nat.le_trans HB3.out.size HB4.out.size)))))
        | (go_at_call 12; refine (keepInts v4 (.slice a5 nl c5) (castL p) (castL p) w5 (HO4.out.sl.below HB5.out) HO5.out.sl).mono ?_; rw [eqL_self]; rintro e w6 ⟨rfl, n6, rfl⟩)
        | (go_at_call 13; refine (sortedOk v2 l (w5.drewN n6) (HO2.out.below (below_drewN' HW5.out _)) HUL.out).mono ?_; rintro e w7 ⟨rfl, n7, rfl⟩)
        | (go_at_call 14; refine (refSorted (.slice al nl capl) l (w5.drewN (n6 + n7)) (HL.out.below (HB2.out.trans ((below_drewN' HW5.out _).mono HB2.out.size)))).mono ?_; rintro e w8 ⟨rfl, n8, rfl⟩)
        | (go_at_call 15; refine (compareOk (.slice a1 n1 c1) (.slice a2 n2 c2) xs ys (w5.drewN (n6 + n7 + n8)) (HA.out.below (HB2.out.trans ((below_drewN' HW5.out _).mono HB2.out.size))) (HB.out.below (HB2.out.trans ((below_drewN' HW5.out _).mono HB2.out.size))) UA.out UB.out).mono ?_; rintro e w9 ⟨rfl, n9, rfl⟩)
        | (go_at_call 16; refine (refCompare (.slice a1 n1 c1) (.slice a2 n2 c2) xs ys (w5.drewN (n6 + n7 + n8 + n9)) (HA.out.below (HB2.out.trans ((below_drewN' HW5.out _).mono HB2.out.size))) (HB.out.below (HB2.out.trans ((below_drewN' HW5.out _).mono HB2.out.size)))).mono ?_; rintro e w10 ⟨rfl, n10, rfl⟩))
      obtain ⟨vs, hv1, hv2, hv3, hv4⟩ := HO3.out
      have HVL := hid hv1
      have HVD := hid hv4
      have HE0 : Hid (ExRel w2.heap.size w2 (.slice a3 nl c3) (.slice a5 nl c5) vs (rowsAt l p) (castL p) 0 (w5.drewN (n6 + n7 + n8 + n9 + n10))) := hid (by
        have hb : Below w3.heap.size w3 w5 := HB4.out.trans (HB5.out.mono HB4.out.size)
        refine ExRel.drewN ⟨ownsRow_below hv2 hb, fun i _ hi => (hv3 i hi).below hb, (HO5.out.mono (Nat.le_trans HB3.out.size HB4.out.size)), HW5.out⟩ _)
      clear hv1 hv2 hv3 hv4
      go_loopw [11] (fun iv wr => ∃ k : Nat, k ≤ nl ∧ iv = .int .i64 k ∧ Hid (ExRel w2.heap.size w2 (.slice a3 nl c3) (.slice a5 nl c5) vs (rowsAt l p) (castL p) k wr)) (fun iv _ => nl - (intOf iv).toNat)
      case atStart => exact ⟨0, by omega, rfl, HE0.out⟩
      case round =>
        clear HE0 HO4 HB4 HB5 HW5 HO3
        obtain ⟨k, hk, rfl, hex⟩ := hrel
        have hbw : Hid (Below w.heap.size w wr) := hid (HB2.out.trans (hex.out.2.2.2.mono HB2.out.size))
        by_cases hlt : k < nl
        · have hpl : p.length = nl := by rw [HP3.out.len, HNL.out]
          have hrl : (rowsAt l p).length = nl := by rw [rowsAt_len, hpl]
          obtain ⟨b3, o3, he3, d3⟩ := sv_cell (Sv.of_row hex.out.1) (k := k) (by have := HVL.out; omega)
          obtain ⟨b5, o5, he5, d5⟩ := sl_cell hex.out.2.2.1.sl (k := k) (by rw [castL_len]; omega)
          rw [castL_getD] at d5
          have hqn : p.getD k 0 < nl := by have := place_mem HP3.out (i := k) (by omega); have := HNL.out; omega
          obtain ⟨bl, ol, hel, dl⟩ := sv_cell (HSV.out.below hbw.out) (k := p.getD k 0) (by have := HVN.out; omega)
          have hown := hex.out.2.1 k (Nat.le_refl _) (by omega)
          have hrk : (rowsAt l p).getD k [] = rowAt l (p.getD k 0) := rowsAt_at (by omega)
          rw [hrk] at hown
          have hsl := (HRL.out (p.getD k 0) hqn).below hbw.out
          have HNX := hid (fun (m : Nat) (wz : World) (hg : (wr.drewN m).grownBy wz (vs.getD k undef).ownBlock) => (hex.out.drewN m).over HVL.out HVD.out (by rw [rowsAt_len]; omega) rfl hg)
          have HOWN := hid hown
          have HSL : Hid (Sl .u8 wr (vsl.getD (p.getD k 0) undef) (rowAt l (p.getD k 0))) := hid hsl
          clear hown hsl hrk hrl hpl
          generalize p.getD k 0 = q at hqn d5 dl HSL HOWN
          generalize rowAt l q = X at HSL HOWN
          generalize vsl.getD q undef = u1 at dl HSL
          obtain ⟨uk, huk⟩ : ∃ uk, uk = vs.getD k undef := ⟨_, rfl⟩
          rw [← huk] at d3 HOWN HNX
          clear huk
          subst he3 he5 hel
          go_wp2_with (fail)
          go_quiet (first | (go_at_call 17; exact quiet_at0 (keepBytes uk u1 X X _ (HOWN.out.sl.drewN _) (HSL.out.drewN _))))
          rw [eqL_self]
          go_wp2_with (go_at_call 18; refine (keepOver uk X (wr.drewN nq) HOWN.out).mono ?_; rintro e w12 ⟨rfl, hg12⟩; have HX12 := hid (HNX.out nq _ hg12); clear hg12)
          go_roundw
          case rel => exact ⟨k + 1, by omega, by go_num, HX12.out⟩
          case measure => simp [intOf]; omega
        · obtain rfl : k = nl := by omega
          go_wp2_with (first
            | (go_at_call 19; refine (keepRows v2 (.slice al k capl) l l wr (HO2.out.below hex.out.2.2.2) (HL.out.below hbw.out)).mono ?_; rw [eqR_self]; rintro e w12 ⟨rfl, n12, rfl⟩)
            | (go_at_call 20; refine (lawWakes4 compareOk sortedOk sortOk placeOk (wr.drewN n12)).mono ?_; rintro e w13 ⟨rfl, hb13⟩; have HB13 := hid ((below_drewN' hbw.out n12).trans (hb13.mono (below_drewN' hbw.out n12).size)); clear hb13))
          go_ret
          exact ⟨rfl, HB13.out⟩
end Go.Proofs.Ytgdbjbkmkdkhhaa
