/- The walk of SetsSort: it answers true and leaves what was there as it was. -/
import Derived.Test.YtgdbjbkmkdkhhaaRows4
import Derived.Test.YtgdbjbkmkdkhhaaIx
import Derived.Deep.DeepCutAuto
namespace Go.Proofs.Ytgdbjbkmkdkhhaa
open Go.RowKit

/-- the list of what has been met, in block g; all else is as it was in w -/
def Met (g : Nat) (w : World) (n : Nat) (p : List Nat) (k : Nat) (wr : World) : Prop := Box 4 (mb n (p.take k)) g wr ∧ w.grownBy wr (some g)
theorem Met.below {n n0 k : Nat} {w wr : World} {p : List Nat} (h : Met w.heap.size (w.drewN n0) n p k wr) : Below w.heap.size w wr :=
  (below_drewN n0).trans ((Below.refl w.heap.size (w.drewN n0)).grown h.2 (Nat.le_refl _) (fun b hb => by injection hb with hb; omega))
theorem Met.drewN {g n k : Nat} {w wr : World} {p : List Nat} (h : Met g w n p k wr) (m : Nat) : Met g w n p k (wr.drewN m) := ⟨h.1, ⟨h.2.os, h.2.tape, h.2.output, h.2.size, h.2.block⟩⟩
theorem Met.set {g n k q : Nat} {w wr : World} {p : List Nat} (h : Met g w n p k wr) (hq : (mb n (p.take k)).set q (.bool true) = mb n (p.take (k + 1))) : Met g w n p (k + 1) (wr.setCell ⟨g, q, none⟩ (.bool true)) :=
  ⟨by rw [← hq]; exact h.1.set q _, grow_set1 h.2 q _⟩
theorem grown_alloc (w : World) (o : Obj) (r : Option Nat) : w.grownBy (w.alloc o) r := ⟨rfl, rfl, rfl, by simp, fun i hi _ => Below.heap_alloc w o i hi⟩

set_option maxHeartbeats 8000000 in
set_option maxRecDepth 100000 in
theorem sortWalk (vl : Value) (l : List (List Int)) (by_ : Int) (w : World) (hl : Rws w vl l) (hul : RU l) :
    Calls Try.prog 5 #[vl, .int .i64 by_] w fun e w' => e = .returned (.bool true) ∧ Below w.heap.size w w' := by
  have HL := hid hl
  have HUL := hid hul
  clear hl hul
  cases hh : heavyS l with
  | true =>
    have HH := hid hh
    clear hh
    go_enter Try.func5, Try.ntmps5
    go_wp2_with (go_at_call 7; refine (lawHeavy vl l w HL.out).mono ?_; rw [HH.out]; rintro e w1 ⟨rfl, n0, rfl⟩)
    go_ret
    exact ⟨rfl, by (repeat (first | exact Below.refl _ _ | exact below_drewN _ | refine Below.drew ?_ | refine Below.alloc ?_ (by first | omega | (simp; done) | (simp; omega)) _ | refine Below.setCell ?_ (by first | (simp; done) | (simp; omega)) _ | refine below_drewN' ?_ _))⟩
  | false =>
    have HF := hid (heavyS_false hh)
    have HH := hid hh
    clear hh
    obtain ⟨nl, hnl⟩ : ∃ nl, nl = l.length := ⟨_, rfl⟩
    have HNL := hid hnl
    have hnl60 : nl ≤ 60 := by have := HF.out.1; omega
    clear hnl
    obtain ⟨vsl, ll1, lsv, lrw⟩ := HL.out
    have hvl := lsv
    obtain ⟨al, capl, hvl, -⟩ := hvl
    rw [ll1, ← HNL.out] at hvl
    subst hvl
    rw [← HNL.out] at lrw ll1
    have HSV := hid lsv
    have HVN := hid ll1
    have HRL := hid lrw
    clear lsv ll1 lrw
    have hmk := make_bools nl (by omega)
    go_enter Try.func5, Try.ntmps5
    go_wp2_with (first
      | (go_at_call 19; refine (keepRows v5 (.slice a2 nl c2) (rowsAt l p) (rowsAt l p) w5 HO5.out (HO2.out.below (HB3.out.trans (HB5.out.mono HB3.out.size)))).mono ?_; rw [eqR_self]; rintro e w6 ⟨rfl, n6, rfl⟩)
      | (go_at_call 9; refine (sortOk (.slice a2 nl c2) (rowsAt l p) (w3.drewN (n3 + n4 + n5)) (HO2.out.below (below_drewN' HB3.out _)) (rowsAt_ru HUL.out) (by rw [rowsAt_len, HP.out.len]; exact HF.out.1) (fun x hx => HF.out.2 x (ru_mem HP.out hx))).mono ?_; rintro e w5 ⟨v5, p5, rfl, hp5, ho5, hb5⟩; rw [sort_twice HP.out hp5] at ho5; have HO5 := hid ho5.own.rws; have HB5 : Hid (Below w3.heap.size w3 w5) := hid ((below_drewN (n3 + n4 + n5)).trans hb5); clear hp5 ho5 hb5)
      | (go_at_call 19; refine (keepRows (.slice a2 nl c2) (.slice al nl capl) (rowsAt l p) l (w3.drewN (n3 + n4)) (HO2.out.below (below_drewN' HB3.out _)) (HL.out.below (HB2.out.trans ((below_drewN' HB3.out _).mono HB2.out.size)))).mono ?_; rw [sorted_eq HP.out]; rintro e w4 ⟨rfl, n5, rfl⟩)
      | (go_at_call 13; refine (sortedOk (.slice al nl capl) l (w3.drewN n3) (HL.out.below (HB2.out.trans ((below_drewN' HB3.out _).mono HB2.out.size))) HUL.out).mono ?_; rintro e w4 ⟨rfl, n4, rfl⟩)
      | (go_at_call 13; refine (sortedOk (.slice a2 nl c2) (rowsAt l p) w3 (HO2.out.below HB3.out) (rowsAt_ru HUL.out)).mono ?_; rw [rows_sorted HP.out.2]; rintro e w4 ⟨rfl, n3, rfl⟩)
      | (go_at_call 10; refine (placeOk (.slice al nl capl) l w2 (HL.out.below HB2.out) HUL.out HF.out.1 HF.out.2).mono ?_; rintro e w3 ⟨v3, p3, rfl, hp3, ho3, hb3⟩; obtain rfl := place_unique HP.out hp3; have HO3 := hid ho3.sl; have HB3 := hid hb3; clear hp3 ho3 hb3; obtain ⟨a3, c3, hv3⟩ := HO3.out.form; rw [castL_len, HP.out.len, ← HNL.out] at hv3; subst hv3)
      | (go_at_call 9; refine (sortOk (.slice al nl capl) l w1 (HL.out.below HB1.out) HUL.out HF.out.1 HF.out.2).mono ?_; rintro e w2 ⟨v2, p, rfl, hp2, ho2, hb2⟩; have HP := hid hp2; have HO2 := hid ho2.own.rws; have HB2 := hid (HB1.out.trans (hb2.mono HB1.out.size)); obtain ⟨a2, c2, hv2⟩ := own_form ho2.own; rw [rowsAt_len, hp2.len, ← HNL.out] at hv2; subst hv2; clear hp2 ho2 hb2)
      | (go_at_call 7; refine (lawHeavy (.slice al nl capl) l w HL.out).mono ?_; rw [HH.out]; rintro e w1 ⟨rfl, n0, hw1⟩; have HB1 : Hid (Below w.heap.size w w1) := hid (by rw [hw1]; (repeat (first | exact Below.refl _ _ | exact below_drewN _ | refine Below.drew ?_ | refine Below.alloc ?_ (by first | omega | (simp; done) | (simp; omega)) _ | refine Below.setCell ?_ (by first | (simp; done) | (simp; omega)) _ | refine below_drewN' ?_ _))); clear hw1))
    have HM0 : Hid (Met w5.heap.size (w5.drewN n6) nl p 0 ((w5.drewN n6).alloc (.cells (mb nl []).toArray 4))) := hid ⟨Box.made (w5.drewN n6) 4 (mb nl []), grown_alloc _ _ _⟩
    clear hmk
    have HB25 := hid (HB3.out.trans (HB5.out.mono HB3.out.size))
    have HB05 := hid (HB2.out.trans (HB25.out.mono HB2.out.size))
    clear HB1
    generalize (w5.drewN n6).alloc (.cells (mb nl []).toArray 4) = W7 at HM0 ⊢
    go_loopw [8] (fun iv wr => ∃ k : Nat, k ≤ nl ∧ iv = .int .i64 k ∧ Hid (Met w5.heap.size (w5.drewN n6) nl p k wr)) (fun iv _ => nl - (intOf iv).toNat)
    case atStart => exact ⟨0, by omega, rfl, HM0.out⟩
    case round =>
      clear HM0
      obtain ⟨k, hk, rfl, hmet⟩ := hrel
      have HB5r := hid (hmet.out.below)
      by_cases hlt : k < nl
      · obtain ⟨k1, hk1⟩ : ∃ k1, k1 = k - 1 := ⟨_, rfl⟩
        have hpl : p.length = nl := by rw [HP.out.len, HNL.out]
        have hqn : p.getD k 0 < nl := by have := place_mem HP.out (i := k) (by omega); have := HNL.out; omega
        have hb3r : Below w3.heap.size w3 wr := HB5.out.trans (HB5r.out.mono HB5.out.size)
        obtain ⟨b3, o3, he3, d3⟩ := sl_cell (HO3.out.below hb3r) (k := k) (by rw [castL_len]; omega)
        obtain ⟨b3', o3', he3', d3'⟩ := sl_cell (HO3.out.below hb3r) (k := k1) (by rw [castL_len]; omega)
        rw [he3] at he3'
        injection he3' with he3'
        injection he3' with e1 e2
        subst e1 e2
        rw [castL_getD] at d3 d3'
        obtain ⟨vs2, q2, s2, r2⟩ := HO2.out.below (HB25.out.trans (HB5r.out.mono HB25.out.size))
        rw [rowsAt_len, hpl] at q2 r2
        obtain ⟨b2, o2, he2, d2⟩ := sv_cell s2 (k := k) (by omega)
        obtain ⟨b2', o2', he2', d2'⟩ := sv_cell s2 (k := k1) (by omega)
        rw [he2] at he2'
        injection he2' with he2'
        injection he2' with e1 e2
        subst e1 e2
        have g2 := hid (r2 k hlt)
        have g2' := hid (r2 (k1) (by omega))
        rw [rowsAt_at (by omega)] at g2 g2'
        have hb0r : Below w.heap.size w wr := HB05.out.trans (HB5r.out.mono HB05.out.size)
        obtain ⟨bl, ol, hel, dl⟩ := sv_cell (HSV.out.below hb0r) (k := p.getD k 0) (by have := HVN.out; omega)
        have gl := hid ((HRL.out (p.getD k 0) hqn).below hb0r)
        have HRQ : Hid (l.getD (p.getD k 0) [] = rowAt l (p.getD k 0)) := rfl
        rw [HRQ.out] at gl
        have dm := hmet.out.1.cell (p.getD k 0)
        rw [mb_at hqn, decide_eq_false (not_met HP.out.nodup (by omega))] at dm
        have fm := hmet.out.1.ice (p.getD k 0)
        have hnext : Hid ((mb nl (p.take k)).set (p.getD k 0) (.bool true) = mb nl (p.take (k + 1))) := hid (by rw [mb_set hqn, take_next (by omega)])
        have hord : 0 < k → eqL (rowAt l (p.getD k 0)) (rowAt l (p.getD (k1) 0)) = true → p.getD (k1) 0 < p.getD k 0 := fun h0 he => by
          have hlt2 := List.pairwise_iff_getElem.1 HP.out.2 (k1) k (by omega) (by omega) (by omega)
          rw [eqL_iff] at he
          have hc := (cmpS_eq _ _).2 he.symm
          simp only [List.getD_eq_getElem?_getD, List.getElem?_eq_getElem (show k < p.length by omega), List.getElem?_eq_getElem (show k1 < p.length by omega), Option.getD_some] at hc ⊢
          unfold ilt at hlt2
          omega
        have HORD := hid hord
        clear hord HRQ q2 r2 s2 hpl
        subst he3 he2 hel
        generalize p.getD k 0 = q at *
        generalize p.getD (k1) 0 = q' at *
        generalize rowAt l q = X at *
        generalize rowAt l q' = Y at *
        generalize vs2.getD k undef = u1 at *
        generalize vs2.getD (k1) undef = u1' at *
        generalize vsl.getD q undef = u2 at *
        have HQ1 : Hid (∀ m, Calls Try.prog 17 #[u1, u2] (wr.drewN m) fun e w' => e = .returned (.bool true) ∧ ∃ k, w' = wr.drewN k) := hid fun m => by
          have := quiet_at0 (keepBytes u1 u2 X X (wr.drewN m) (g2.out.drewN _) (gl.out.drewN _))
          rwa [eqL_self] at this
        have HQ2 : Hid (∀ m, Calls Try.prog 17 #[u1, u1'] (wr.drewN m) fun e w' => e = .returned (.bool (eqL X Y)) ∧ ∃ k, w' = wr.drewN k) := hid fun m => quiet_at0 (keepBytes u1 u1' X Y (wr.drewN m) (g2.out.drewN _) (g2'.out.drewN _))
        have w8 : 0 < k → (k : Int) - 1 = (k1 : Int) := fun h => by omega
        have hk1n : k1 < nl := by omega
        have hq0 : decide ((q : Int) < 0) = false := decide_eq_false (by omega)
        have hq1 : decide (nl ≤ q) = false := decide_eq_false (by omega)
        clear hk1
        generalize eqL X Y = bb at HQ2 HORD
        go_wp2_with (fail)
        rcases Nat.lt_or_ge 0 k with h0 | h0
        · have w9 := w8 h0
          have HQQ := hid (HORD.out h0)
          have w10 : IntKind.i64.wrap (k1 : Int) = (k1 : Int) := by rw [IntKind.wrap_i64]; omega
          clear w8 HORD
          cases bb with
          | false =>
            go_quiet (first | (go_at_call 17; with_reducible exact HQ1.out _) | (go_at_call 17; with_reducible exact HQ2.out _))
            go_wp2_with (fail)
            go_roundw
            case rel => exact ⟨k + 1, by omega, by go_num, (hmet.out.drewN nq).set hnext.out⟩
            case measure => simp [intOf]; omega
          | true =>
            have hqq : decide (q < q') = false := decide_eq_false (by have := HQQ.out rfl; omega)
            go_quiet (first | (go_at_call 17; with_reducible exact HQ1.out _) | (go_at_call 17; with_reducible exact HQ2.out _))
            go_wp2_with (fail)
            go_roundw
            case rel => exact ⟨k + 1, by omega, by go_num, (hmet.out.drewN nq).set hnext.out⟩
            case measure => simp [intOf]; omega
        · have hkg : decide (0 < k) = false := decide_eq_false (by omega)
          clear h0 w8 HORD
          go_quiet (first | (go_at_call 17; with_reducible exact HQ1.out _) | (go_at_call 17; with_reducible exact HQ2.out _))
          go_wp2_with (fail)
          go_roundw
          case rel => exact ⟨k + 1, by omega, by go_num, (hmet.out.drewN nq).set hnext.out⟩
          case measure => simp [intOf]; omega
      · have hb0r : Hid (Below w.heap.size w wr) := hid (HB05.out.trans (HB5r.out.mono HB05.out.size))
        have hb2r : Hid (Below w2.heap.size w2 wr) := hid (HB25.out.trans (HB5r.out.mono HB25.out.size))
        clear hmet HB5r HO3 HO5 HB3 HB5 HB25 HB05
        obtain rfl : k = nl := by omega
        clear hk hlt
        rcases Nat.eq_zero_or_pos k with h0 | h0
        · subst h0
          go_wp2_with (go_at_call 20; refine (lawWakes4 compareOk sortedOk sortOk placeOk wr).mono ?_; rintro e w13 ⟨rfl, hb13⟩; have HB13 := hid (hb0r.out.trans (hb13.mono hb0r.out.size)); clear hb13)
          go_ret
          exact ⟨rfl, HB13.out⟩
        · have hix := ixr by_ (k : Int) (by omega) (by omega)
          have HIX := hid hix
          clear hix
          have hz0 : ((k : Int) == 0) = false := by simp; omega
          go_upto_region 16 with (fail)
          clear hz0
          have hix := HIX.out
          clear HIX
          generalize wrap64 ((IntKind.u64.wrap by_).tmod (k : Int)) = x at hix ⊢
          obtain ⟨d, rfl⟩ := Int.eq_ofNat_of_zero_le hix.1
          have hd : d < k := by omega
          clear hix
          have hw0 : Hid (Rws wr.drew (.slice al k capl) l) := hid (HL.out.below hb0r.out.drew)
          go_cut [9] from 140 to 147 (fun tv wx => Hid (Rws wx tv (l.drop d ++ l.take d)) ∧ Hid (Below wr.heap.size wr wx))
          case first =>
            obtain ⟨vA, hA1, hA2, hA3⟩ := cut_allR (P := Try.prog) wr.drew 22 23 Try.underlying22 Try.infoRow (.slice al k capl) l hw0.out (some (.int .i64 (d : Int))) none d l.length (.inr ⟨.i64, rfl⟩) (.inl ⟨rfl, rfl⟩) (by have := HNL.out; omega) (Nat.le_refl _)
            obtain ⟨vB, hB1, hB2, hB3⟩ := cut_allR (P := Try.prog) wr.drew 22 23 Try.underlying22 Try.infoRow (.slice al k capl) l hw0.out none (some (.int .i64 (d : Int))) 0 d (.inl ⟨rfl, rfl⟩) (.inr ⟨.i64, rfl⟩) (by omega) (by have := HNL.out; omega)
            have HVA : Hid (Rws wr.drew vA (l.drop d)) := hid (by have := hA3 _ hw0.out; rwa [List.take_of_length_le (by simp)] at this)
            have HVB : Hid (Rws wr.drew vB (l.take d)) := hid (by have := hB3 _ hw0.out; simpa using this)
            clear hA3 hB3
            go_region_law (first
              | (go_simp; go_at_call 8; refine (keepTwinRows vA (l.drop d) wr.drew HVA.out (by have := HF.out.1; rw [List.length_drop]; omega) (fun x hx => by have := HF.out.2 x (List.mem_of_mem_drop hx); omega)).mono ?_; rintro e w7 ⟨v7, rfl, ho7, hb7⟩; have HO7 := hid ho7.own; have HB7 := hid hb7; clear ho7 hb7)
              | (go_loud (refine step_appRows rfl (.tmp 143) (.tmp 146) 22 rfl 23 5 (by decide) 24 Try.underlying22 Try.infoRow wr.drew HB7.out v7 (l.drop d) (l.take d) rfl HO7.out vB rfl HVB.out (by have := HF.out.1; unfold maxLen; rw [List.length_drop, List.length_take]; omega) (by have := HF.out.1; rw [List.length_drop, List.length_take]; omega) ?_); intro v8 w8 hr8 hb8; have HR8 := hid hr8; have HB8 := hid hb8; clear hr8 hb8))
            go_simp
            go_wp2_with (fail)
            go_meet
            case rel => exact ⟨HR8.out, ((Below.refl wr.heap.size wr).drew.trans HB7.out).trans HB8.out⟩
          case rest =>
            obtain ⟨hr9, hb9⟩ := hcut
            have HMEM := hid (fun (x : List Int) (hx : x ∈ l.drop d ++ l.take d) => (rotate_perm l d).mem_iff.1 hx)
            have HLR := hid (rotate_perm l d).length_eq
            have HB29 := hid (hb2r.out.trans (hb9.out.mono hb2r.out.size))
            have HB09 := hid (hb0r.out.trans (hb9.out.mono hb0r.out.size))
            clear hb2r hb0r hb9 hw0
            go_wp2_with (first
              | (go_at_call 20; refine (lawWakes4 compareOk sortedOk sortOk placeOk (w11.drewN n12)).mono ?_; rintro e w13 ⟨rfl, hb13⟩; have HB13 := hid ((below_drewN' HB011.out n12).trans (hb13.mono (below_drewN' HB011.out n12).size)); clear hb13)
              | (go_at_call 19; refine (keepRows v11 (.slice a2 k c2) (rowsAt l p) (rowsAt l p) w11 HO11.out (HO2.out.below HB211.out)).mono ?_; rw [eqR_self]; rintro e w12 ⟨rfl, n12, rfl⟩)
              | (go_at_call 9; refine (sortOk _ (l.drop d ++ l.take d) wc hr9.out (fun x hx => HUL.out x (HMEM.out x hx)) (by rw [HLR.out]; exact HF.out.1) (fun x hx => HF.out.2 x (HMEM.out x hx))).mono ?_; rintro e w11 ⟨v11, p11, rfl, hp11, ho11, hb11⟩; rw [rows_same hp11 HP.out (rotate_perm l d)] at ho11; have HO11 := hid ho11.own.rws; have HB211 := hid (HB29.out.trans (hb11.mono HB29.out.size)); have HB011 := hid (HB09.out.trans (hb11.mono HB09.out.size)); clear hp11 ho11 hb11))
            go_ret
            exact ⟨rfl, HB13.out⟩
end Go.Proofs.Ytgdbjbkmkdkhhaa
