/- Several texts in one: Cmp10b, Cmp10c, Cmp10d, Cmp10e. -/
import Derived.Test.YtdncmdpacidgmaaPk36
import Derived.Test.YtdncmdpacidgmaaPk37
import Derived.Test.YtdncmdpacidgmaaPk16
import Derived.Test.YtdncmdpacidgmaaPk38
import Derived.BigQuiet
/-! Cmp10b -/
namespace Go.Proofs.Ytdncmdpacidgmaa
open Go.RowKit Go.Shelf

theorem inI_I64c {c : Int} (h : inI c = true) : I64n c := by
  unfold inI at h
  rw [decide_eq_true_iff] at h
  exact h
set_option maxHeartbeats 2000000 in
theorem compTwo : CTwoOk := by
  intro a b w ha hb
  obtain ⟨R, hR⟩ : ∃ x, x = joinS a b := ⟨_, rfl⟩
  have HJ := hid (fun w => joinOk a b w ha hb)
  rw [← hR] at HJ
  obtain ⟨T, hT⟩ : ∃ x, x = twoS a b := ⟨_, rfl⟩
  rw [← hT]
  obtain ⟨c, k⟩ := R
  cases k with
  | true =>
    have HR := hid (show T = (c, true) by rw [hT]; unfold twoS; rw [← hR]; rfl)
    clear hR hT
    go_enter Try.func78, Try.ntmps78
    go_wp2_with (go_at_call 68; refine (HJ.out _).mono ?_; rintro e w1 ⟨rfl, hb1⟩; have HB1 := hid hb1; clear hb1)
    go_ret2
    exact ⟨by rw [HR.out]; rfl, HB1.out⟩
  | false =>
    have HR := hid (show T = pairS a b by rw [hT]; unfold twoS; rw [← hR]; rfl)
    have HP := hid (fun w => ucdPair a b w)
    obtain ⟨P, hP⟩ : ∃ x, x = pairS a b := ⟨_, rfl⟩
    rw [← hP] at HR HP
    obtain ⟨p, o⟩ := P
    clear hR hT hP
    go_enter Try.func78, Try.ntmps78
    go_wp2_with (first
      | (go_at_call 68; refine (HJ.out _).mono ?_; rintro e w1 ⟨rfl, hb1⟩; have HB1 := hid hb1; clear hb1)
      | (go_at_call 16; refine (HP.out _).mono ?_; rintro e w2 ⟨rfl, hb2⟩; have HB2 := hid (HB1.out.trans (hb2.mono HB1.out.size)); clear hb2))
    go_ret2
    exact ⟨by rw [HR.out]; rfl, HB2.out⟩

theorem loadAns {a b c : Value} {B : Nat} {w : World} (h : Box 91 [a, b, c] B w) : (loadVar 91 ⟨B, 0, none⟩).run Try.prog w = .ok (.agg #[a, b, c]) w := by
  have k0 := h.cell 0
  have k1 := h.cell 1
  have k2 := h.cell 2
  simp only [List.getElem?_cons_zero, List.getElem?_cons_succ] at k0 k1 k2
  simp [go_sem, k0, k1, k2]
/-- three cells of a block, written over -/
def put3 (W : World) (B : Nat) (x y z : Value) : World := ((W.setCell ⟨B, 0, none⟩ x).setCell ⟨B, 1, none⟩ y).setCell ⟨B, 2, none⟩ z
theorem Box.put3 {t : TypeId} {a b c : Value} {B : Nat} {w : World} (h : Box t [a, b, c] B w) (x y z : Value) : Box t [x, y, z] B (put3 w B x y z) := ((h.set 0 x).set 1 y).set 2 z
theorem below_put3 {base B : Nat} {w0 w : World} (h : Below base w0 w) (hB : base ≤ B) (x y z : Value) : Below base w0 (put3 w B x y z) := ((h.setCell hB _).setCell hB _).setCell hB _

set_option maxHeartbeats 2000000 in
theorem cmpAsk (a b : Int) (w : World) (ha : inI a = true) (hb : inI b = true) : Calls Try.prog 69 #[.int .i64 a, .int .i64 b] w fun e w' => e = .returned (av true (twoS a b).1 (twoS a b).2) ∧ Below w.heap.size w w' := by
  have HT := hid (fun w => compTwo a b w (inI_I64c ha) (inI_I64c hb))
  obtain ⟨⟨c, o⟩, hT⟩ : ∃ x, x = twoS a b := ⟨_, rfl⟩
  rw [← hT] at HT ⊢
  have HX := hid (Box.made w 91 [.bool false, .int .i64 0, .bool false])
  clear hT ha hb
  go_enter Try.func69, Try.ntmps69
  go_wp2_with (go_at_call 78; refine (HT.out _).mono ?_; rintro e w1 ⟨rfl, hb1⟩; have HX1 := hid (HX.out.below hb1 HX.out.lt); have x0 := HX1.out.cell 0; have x1 := HX1.out.cell 1; have x2 := HX1.out.cell 2; have z0 := HX1.out.ice 0; have z1 := HX1.out.ice 1; have z2 := HX1.out.ice 2; simp only [List.getElem?_cons_zero, List.getElem?_cons_succ] at x0 x1 x2; have HB1 := hid (Below.trans (show Below w.heap.size w _ from by (repeat (first | exact Below.refl _ _ | exact below_drewN _ | refine Below.drew ?_ | refine Below.alloc ?_ (by simp) _ | refine Below.setCell ?_ (by simp) _ | refine below_drewN' ?_ _))) (hb1.mono (by simp))); clear hb1)
  refine bodyPost_ret (results_one rfl rfl (loadAns (HX1.out.put3 _ _ _))) rfl ⟨rfl, below_put3 HB1.out (Nat.le_refl _) _ _ _⟩

/-- storing at a pair of numbers -/
theorem wpList_storeP {w : World} {ops : Array Oper} {rest : List Oper} {o : Oper} {ac : Act} {Q : Exit → Act → World → Prop} (hg : o.guard = none) (m x y : Operand) (hop : o.op = Op.mapUpdate 80 m x y)
    (M : Nat) (a b : Int) (k : Bool) (c : Int) (ok : Bool) {L : List Rg} (h : MapC L M w) (ha : inI a = true) (hb : inI b = true) (hc : AnsOk a b k c ok) (hm : ac.eval m = .map (some M)) (hx : ac.eval x = pv a b) (hy : ac.eval y = av k c ok)
    (hK : ∀ w', w.grownBy w' (some M) → (∀ f, MapC (L ++ [⟨f, a, b⟩]) M w') → wpList Try.prog ops Q rest (ac.put o.dst undef) w') : wpList Try.prog ops Q (o :: rest) ac w := by
  obtain ⟨w', hrun, hg', hM'⟩ := store_pair h ha hb hc
  refine wpList_plain hg fun K' hK' => ?_
  unfold Oper.wp
  simp [execOp, hop, hm, hx, hy, hrun, Result.andThen]
  exact hK' _ _ (hK w' hg' hM')
/-- whether a pair is among the keys -/
def InMap (a b : Int) (M : Nat) (w : World) : Prop := ∃ es clock, w.heap[M]? = some (.map es clock) ∧ ∃ e ∈ es.toList, e.key = pv a b
theorem wpList_missP {w w0 : World} {ops : Array Oper} {rest : List Oper} {o : Oper} {ac : Act} {Q : Exit → Act → World → Prop} (hg : o.guard = none) (m x : Operand) (hop : o.op = Op.lookup 80 m x true)
    (M : Nat) (a b : Int) {L : List Rg} (h : MapC L M w0) (hb0 : Below w0.heap.size w0 w) (ha : inI a = true) (hb : inI b = true) (hn : ¬ InMap a b M w0) (hm : ac.eval m = .map (some M)) (hx : ac.eval x = pv a b)
    (hK : wpList Try.prog ops Q rest (ac.put o.dst (.tuple #[.agg #[.bool false, .int .i64 0, .bool false], .bool false])) w) : wpList Try.prog ops Q (o :: rest) ac w := by
  have hlt := h.lt
  obtain ⟨es, clock, hM, h1, h2⟩ := h
  have hM' : w.heap[M]? = some (.map es clock) := (hb0.block M hlt).trans hM
  have hkey := pr_key ha hb
  have ht := Try.underlying80
  rcases pr_law.find w hkey es.toList (fun x hx => (h1 x hx).key) with ⟨hf, -⟩ | ⟨j, e0, hf, he, hk⟩
  · have hrun : (Instr.lookup 80 (.map (some M)) (pv a b) true).run Try.prog w = .ok (.tuple #[av false 0 false, .bool false]) w := by simp [Instr.lookup, run_underlying ht, MapKept.run_getObj_map hM', pr_law.check w _ hkey, hf, Result.andThen]; rfl
    refine wpList_plain hg fun K' hK' => ?_
    unfold Oper.wp
    simp [execOp, hop, hm, hx, hrun, Result.andThen]
    exact hK' _ _ hK
  · exact absurd ⟨es, clock, hM, e0, List.mem_of_getElem? he, hk⟩ hn
theorem wpList_hitP {w w0 : World} {ops : Array Oper} {rest : List Oper} {o : Oper} {ac : Act} {Q : Exit → Act → World → Prop} (hg : o.guard = none) (m x : Operand) (hop : o.op = Op.lookup 80 m x true)
    (M : Nat) (a b : Int) {L : List Rg} (h : MapC L M w0) (hb0 : Below w0.heap.size w0 w) (ha : inI a = true) (hb : inI b = true) (hn : InMap a b M w0) (hm : ac.eval m = .map (some M)) (hx : ac.eval x = pv a b)
    (hK : ∀ k c ok, AnsOk a b k c ok → wpList Try.prog ops Q rest (ac.put o.dst (.tuple #[.agg #[.bool k, .int .i64 c, .bool ok], .bool true])) w) : wpList Try.prog ops Q (o :: rest) ac w := by
  have hlt := h.lt
  obtain ⟨es, clock, hM, h1, h2⟩ := h
  have hM' : w.heap[M]? = some (.map es clock) := (hb0.block M hlt).trans hM
  have hkey := pr_key ha hb
  have ht := Try.underlying80
  rcases pr_law.find w hkey es.toList (fun x hx => (h1 x hx).key) with ⟨hf, hno⟩ | ⟨j, e0, hf, he, hk⟩
  · obtain ⟨es', clock', hM2, e, hem, hek⟩ := hn
    rw [hM] at hM2
    cases hM2
    exact absurd hek (hno e hem)
  · obtain ⟨a', b', k, c, ok, hk', -, -, hv, hc⟩ := h1 e0 (List.mem_of_getElem? he)
    obtain ⟨rfl, rfl⟩ := pv_inj (hk'.symm.trans hk)
    have hrun : (Instr.lookup 80 (.map (some M)) (pv a' b') true).run Try.prog w = .ok (.tuple #[av k c ok, .bool true]) w := by
      rw [← hv]
      simp [Instr.lookup, run_underlying ht, MapKept.run_getObj_map hM', pr_law.check w _ hkey, hf, Result.andThen]
    refine wpList_plain hg fun K' hK' => ?_
    unfold Oper.wp
    simp [execOp, hop, hm, hx, hrun, Result.andThen]
    exact hK' _ _ (hK k c ok hc)
theorem MapC.miss {L : List Rg} {a b : Int} {M : Nat} {w : World} (h : MapC L M w) (hn : ¬ InMap a b M w) : ∀ r ∈ L, ¬ (r.t = a ∧ r.v = b) := fun r hr hrr => by
  obtain ⟨es, clock, hM, -, h2⟩ := h
  obtain ⟨e, hem, hek⟩ := h2 r hr
  rw [hrr.1, hrr.2] at hek
  exact hn ⟨es, clock, hM, e, hem, hek⟩
end Go.Proofs.Ytdncmdpacidgmaa

/-! Cmp10c -/
namespace Go.Proofs.Ytdncmdpacidgmaa
open Go.RowKit Go.Shelf

theorem canon_in : (tabCanon.all fun r => inI r.t && inI r.v) = true ∧ tabCanon.length ≤ 1000 := by decide +kernel
theorem MapC.upto {k : Nat} {M : Nat} {w : World} (hk : k < tabCanon.length) (h : ∀ f, MapC (tabCanon.take k ++ [⟨f, (tabCanon.getD k noRg).t, (tabCanon.getD k noRg).v⟩]) M w) : MapC (tabCanon.take (k + 1)) M w := by
  have := h (tabCanon.getD k noRg).f
  rw [List.take_add_one, List.getElem?_eq_getElem hk]
  rwa [List.getD_eq_getElem?_getD, List.getElem?_eq_getElem hk] at this

theorem Sg.cap_ge {w : World} {a : Option Addr} {n c : Nat} {l : List Rg} (h : Sg w (.slice a n c) l) : l.length ≤ c := by
  obtain ⟨a', cap, hv, hl, -⟩ := h
  injection hv with h1 h2 h3
  omega
theorem MapC.nocell {L : List Rg} {M : Nat} {w : World} (h : MapC L M w) {b o : Nat} {v : Value} (hc : w.cell? ⟨b, o, none⟩ = some v) : b ≠ M := fun e => by
  obtain ⟨es, clock, hm, -⟩ := h
  subst e
  simp [World.cell?, hm] at hc
theorem Sg.map {w w' : World} {v : Value} {l L : List Rg} {M : Nat} (h : Sg w v l) (hm : MapC L M w) (hg : w.grownBy w' (some M)) : Sg w' v l := by
  obtain ⟨a, cap, hv, hl, hx, h⟩ := h
  refine ⟨a, cap, hv, hl, hx, ?_⟩
  rcases h with h | ⟨b, off, ha, hbb, hc⟩
  · exact .inl h
  · refine .inr ⟨b, off, ha, fun h0 => Nat.lt_of_lt_of_le (hbb h0) hg.size, fun i hi => ?_⟩
    obtain ⟨h1, h2, h3⟩ := hc i hi
    have hs : w'.heap[b]? = w.heap[b]? := hg.block b (hbb (by omega)) (fun e => hm.nocell h1 (by injection e))
    have hs' : ∀ o, w'.cell? ⟨b, o, none⟩ = w.cell? ⟨b, o, none⟩ := fun o => by simp only [World.cell?, hs]
    exact ⟨(hs' _).trans h1, (hs' _).trans h2, (hs' _).trans h3⟩

set_option maxRecDepth 10000 in
set_option maxHeartbeats 2000000 in
theorem cmpDecomposed (w : World) : Calls Try.prog 43 #[] w fun e w' => e = .returned (.map (some w.heap.size)) ∧ MapC tabCanon w.heap.size w' ∧ Below w.heap.size w w' := by
  obtain ⟨hin, hlen⟩ := canon_in
  have HIN := hid (fun k (hk : k < tabCanon.length) => (show inI (tabCanon.getD k noRg).t = true ∧ inI (tabCanon.getD k noRg).v = true by
    have := List.all_eq_true.1 hin (tabCanon.getD k noRg) (by rw [List.getD_eq_getElem?_getD, List.getElem?_eq_getElem hk]; exact List.getElem_mem _)
    simpa using this))
  obtain ⟨n, hn⟩ : ∃ n, n = tabCanon.length := ⟨_, rfl⟩
  have HN := hid hn
  rw [← hn] at hlen
  clear hin hn
  go_enter Try.func43, Try.ntmps43
  go_wp2_with (fail)
  simp only [run_makeMap, Result.andThen]
  obtain ⟨W1, hW1⟩ : ∃ W1, W1 = w.alloc (.map #[] 0) := ⟨_, rfl⟩
  have HM0 := hid (show MapC [] w.heap.size W1 by rw [hW1]; exact MapC.nil (heap_alloc_new w (.map #[] 0)))
  have HB0 := hid (show Below w.heap.size w W1 by rw [hW1]; (repeat (first | exact Below.refl _ _ | exact below_drewN _ | refine Below.drew ?_ | refine Below.alloc ?_ (by simp) _ | refine Below.setCell ?_ (by simp) _ | refine below_drewN' ?_ _)))
  rw [← hW1]
  clear hW1
  go_wp2_with (go_at_call 18; refine (apiCanon _).mono ?_; rintro e w1 ⟨v1, rfl, ho1, hb1⟩; have HS1 := hid ho1.sg; obtain ⟨a1, c1, hv1⟩ := ho1.form; rw [← HN.out] at hv1; subst hv1; have HM1 := hid (HM0.out.below hb1); have HB1 := hid (HB0.out.trans (hb1.mono HB0.out.size)); clear ho1 hb1)
  go_loopw [7] (fun iv wr => ∃ k : Nat, k ≤ n ∧ iv = .int .i64 k ∧ Hid (Below w.heap.size w wr) ∧ Hid (Sg wr (.slice a1 n c1) tabCanon) ∧ Hid (MapC (tabCanon.take k) w.heap.size wr)) (fun iv _ => n - (intOf iv).toNat)
  case atStart => exact ⟨0, by omega, rfl, HB1.out, HS1.out, HM1.out⟩
  case round =>
    obtain ⟨k, hk, rfl, hbel, hsg, hmc⟩ := hrel
    by_cases hlt : k < n
    · obtain ⟨av0, cap0, hv0, -, -, c0⟩ := hsg.out
      injection hv0 with hv1 hv2 hv3
      subst hv1 hv3
      rcases c0 with hc | ⟨b1, o1, rfl, hb1, c1⟩
      · have := hsg.out.cap_ge
        have := HN.out
        omega
      have hb1' := hb1 (by have := HN.out; omega)
      obtain ⟨d1, d2, d3⟩ := c1 k (by have := HN.out; omega)
      obtain ⟨i1, i2⟩ := HIN.out k (by have := HN.out; omega)
      have HUP := hid (fun (w' : World) h => MapC.upto (k := k) (M := w.heap.size) (w := w') (by have := HN.out; omega) h)
      clear c1 hv2
      generalize tabCanon.getD k noRg = r at d1 d2 d3 i1 i2 HUP
      obtain ⟨rf, rt, rv⟩ := r
      simp only at d1 d2 d3 i1 i2 HUP
      have HI := hid (And.intro i1 i2)
      clear i1 i2
      have HBW := hid (show Below wr.heap.size wr (wr.alloc (.cells #[.int .i64 rf, .int .i64 rt, .int .i64 rv] 53)) from (Below.refl _ _).alloc (Nat.le_refl _) _)
      go_wp2_with (at_mapUpdate; refine wpList_storeP rfl _ _ _ rfl w.heap.size rt rv false 0 false (hmc.out.below HBW.out) HI.out.1 HI.out.2 (fun h => by cases h) rfl rfl rfl ?_; intro w4 hg4 hm4; have HG4 := hid hg4; have HM4 := hid hm4; clear hg4 hm4)
      go_roundw
      case rel => exact ⟨k + 1, by omega, by go_num, (hbel.out.trans (HBW.out.mono hbel.out.size)).grown HG4.out (Nat.le_trans hbel.out.size HBW.out.size) (fun r e => by injection e with e; omega), (hsg.out.below HBW.out).map (hmc.out.below HBW.out) HG4.out, HUP.out w4 HM4.out⟩
      case measure => simp [intOf]; omega
    · obtain rfl : k = n := by omega
      go_wp2_with (fail)
      go_ret
      exact ⟨rfl, by have := hmc.out; rwa [List.take_of_length_le (by have := HN.out; omega)] at this, hbel.out⟩
end Go.Proofs.Ytdncmdpacidgmaa

/-! Cmp10d -/
namespace Go.Proofs.Ytdncmdpacidgmaa
open Go.RowKit Go.Shelf

theorem MapC.drop {L : List Rg} {r : Rg} {M : Nat} {w : World} (h : MapC (L ++ [r]) M w) : MapC L M w := by
  obtain ⟨es, clock, hm, h1, h2⟩ := h
  exact ⟨es, clock, hm, h1, fun x hx => h2 x (List.mem_append_left _ hx)⟩

set_option maxRecDepth 10000 in
set_option maxHeartbeats 2000000 in
theorem answersTwo (M : Nat) (a b : Int) (w : World) (hm : MapC tabCanon M w) (ha : inI a = true) (hb : inI b = true) :
    Calls Try.prog 56 #[.map (some M), .int .i64 a, .int .i64 b] w fun e w' => e = .returned (.tuple #[.int .i64 (twoS a b).1, .bool (twoS a b).2]) ∧ w.grownBy w' (some M) ∧ MapC tabCanon M w' := by
  have HM := hid hm
  have HI := hid (And.intro ha hb)
  have hlt := hm.lt
  by_cases hin : InMap a b M w
  · have HIN := hid hin
    have HA := hid (fun w => cmpAsk a b w ha hb)
    obtain ⟨T, hT⟩ : ∃ x, x = twoS a b := ⟨_, rfl⟩
    have HT := hid hT
    rw [← hT] at HA ⊢
    clear hm ha hb hin hT
    go_enter Try.func56, Try.ntmps56
    go_wp2_with (first
      | (at_lookup; refine wpList_hitP rfl _ _ rfl M a b HM.out (by (repeat (first | exact Below.refl _ _ | exact below_drewN _ | refine Below.drew ?_ | refine Below.alloc ?_ (by simp) _ | refine Below.setCell ?_ (by simp) _ | refine below_drewN' ?_ _))) HI.out.1 HI.out.2 HIN.out rfl rfl ?_; intro k c ok hok; have HOK := hid hok; clear hok)
      | (go_at_call 69; refine (HA.out _).mono ?_; rintro e w2 ⟨rfl, hb2⟩; simp only [av]; have HX2 := hid ((show Box 91 [.bool k, .int .i64 c, .bool ok] (w.heap.size + 1) ((w.alloc (.cells #[.int .i64 a, .int .i64 b] 60)).alloc (.cells #[.bool k, .int .i64 c, .bool ok] 91)) from box_last w _ _ _).below hb2 (by first | omega | (simp; omega) | simp)); have HB2 := hid (Below.trans (show Below w.heap.size w ((w.alloc (.cells #[.int .i64 a, .int .i64 b] 60)).alloc (.cells #[.bool k, .int .i64 c, .bool ok] 91)) from by (repeat (first | exact Below.refl _ _ | exact below_drewN _ | refine Below.drew ?_ | refine Below.alloc ?_ (by simp) _ | refine Below.setCell ?_ (by simp) _ | refine below_drewN' ?_ _))) (hb2.mono (by first | omega | (simp; omega) | simp))); have HY2 := hid ((show Box 60 [.int .i64 a, .int .i64 b] w.heap.size _ from (Box.made w 60 [.int .i64 a, .int .i64 b]).alloc (.cells #[.bool k, .int .i64 c, .bool ok] 91)).below hb2 (by first | omega | (simp; omega) | simp)); have x0 := HX2.out.cell 0; have x1 := HX2.out.cell 1; have x2 := HX2.out.cell 2; have z0 := HX2.out.ice 0; have z1 := HX2.out.ice 1; have z2 := HX2.out.ice 2; have y0 := HY2.out.cell 0; have y1 := HY2.out.cell 1; simp only [List.getElem?_cons_zero, List.getElem?_cons_succ] at x0 x1 x2 y0 y1; clear hb2)
      | (at_mapUpdate; go_loud (refine wpList_storeP rfl _ _ _ rfl M a b true T.1 T.2 (HM.out.below (show Below w.heap.size w (put3 w2 (w.heap.size + 1) (.bool true) (.int .i64 T.1) (.bool T.2)) from below_put3 HB2.out (by omega) _ _ _)) HI.out.1 HI.out.2 (fun _ => HT.out) rfl rfl rfl ?_); intro w3 hg3 hm3; have HX3 := hid (HX2.out.put3 (.bool true) (.int .i64 T.1) (.bool T.2)); have HG3 := hid hg3; have HM3 := hid hm3))
    · have HBP : Hid (Below w.heap.size w (put3 w2 (w.heap.size + 1) (.bool true) (.int .i64 T.1) (.bool T.2))) := hid (below_put3 HB2.out (by omega) _ _ _)
      have HX4 : Hid (Box 91 [.bool true, .int .i64 T.1, .bool T.2] (w.heap.size + 1) w3) := hid ((HG3.out.block _ HX3.out.lt (fun e => by injection e; omega)).trans HX3.out)
      have t1 := HX4.out.cell 1
      have t2 := HX4.out.cell 2
      simp only [List.getElem?_cons_zero, List.getElem?_cons_succ] at t1 t2
      clear hg3 hm3 x0 x1 x2 y0 y1 z0 z1 z2
      go_quiet (fail)
      go_wp2
      go_ret2
      exact ⟨rfl, grown_trans (grown_below HBP.out _) ⟨HG3.out.os, HG3.out.tape, HG3.out.output, HG3.out.size, HG3.out.block⟩, (HM3.out 0).drop⟩
    · have hk2 : k = true := by have hk := ‹(!k) = false›; simpa using hk
      have HR := hid (HT.out.trans (HOK.out hk2).symm)
      have HX4 : Hid (Box 91 [.bool k, .int .i64 c, .bool ok] (w.heap.size + 1) ((w.alloc (.cells #[.int .i64 a, .int .i64 b] 60)).alloc (.cells #[.bool k, .int .i64 c, .bool ok] 91))) := hid (box_last w _ _ _)
      have HBP : Hid (Below w.heap.size w ((w.alloc (.cells #[.int .i64 a, .int .i64 b] 60)).alloc (.cells #[.bool k, .int .i64 c, .bool ok] 91))) := hid (by (repeat (first | exact Below.refl _ _ | exact below_drewN _ | refine Below.drew ?_ | refine Below.alloc ?_ (by simp) _ | refine Below.setCell ?_ (by simp) _ | refine below_drewN' ?_ _)))
      have t1 := HX4.out.cell 1
      have t2 := HX4.out.cell 2
      simp only [List.getElem?_cons_zero, List.getElem?_cons_succ] at t1 t2
      clear hk2
      go_quiet (fail)
      go_wp2
      go_ret2
      exact ⟨by rw [HR.out]; rfl, grown_below (below_drewN' HBP.out _) _, HM.out.below (below_drewN' HBP.out _)⟩
  · have HJ := hid (fun w => joinOk a b w (inI_I64c ha) (inI_I64c hb))
    rw [two_off (hm.miss hin)]
    have HIN := hid hin
    clear hm ha hb hin
    go_enter Try.func56, Try.ntmps56
    go_wp2_with (first
      | (at_lookup; go_loud (refine wpList_missP rfl _ _ rfl M a b HM.out (by (repeat (first | exact Below.refl _ _ | exact below_drewN _ | refine Below.drew ?_ | refine Below.alloc ?_ (by simp) _ | refine Below.setCell ?_ (by simp) _ | refine below_drewN' ?_ _))) HI.out.1 HI.out.2 HIN.out rfl rfl ?_))
      | (go_at_call 68; refine (HJ.out _).mono ?_; rintro e w2 ⟨rfl, hb2⟩; have HB2 := hid (Below.trans (show Below w.heap.size w _ from by (repeat (first | exact Below.refl _ _ | exact below_drewN _ | refine Below.drew ?_ | refine Below.alloc ?_ (by simp) _ | refine Below.setCell ?_ (by simp) _ | refine below_drewN' ?_ _))) (hb2.mono (by first | omega | (simp; omega) | simp))); clear hb2))
    go_ret2
    exact ⟨rfl, grown_below HB2.out _, HM.out.below HB2.out⟩
end Go.Proofs.Ytdncmdpacidgmaa

/-! Cmp10e -/
namespace Go.Proofs.Ytdncmdpacidgmaa
open Go.RowKit Go.Shelf

/-- where the starter stands -/
def stOf (q : Cp) : Int := match q.s with
  | none => -1
  | some _ => (q.p.length : Int)
/-- the composition in block B, its map in block M: what has been built so far -/
structure CompI (n0 B M : Nat) (q : Cp) (w : World) : Prop where
  ex : ∃ vl la, Box 83 [vl, .int .i64 (stOf q), .int .i64 la, .map (some M)] B w ∧ Own .i64 3 n0 w vl q.out ∧ ∀ y, q.m.getLast? = some y → la = classS y
  map : MapC tabCanon M w
  hB : n0 ≤ B
  hM : n0 ≤ M
  nz : ∀ y ∈ q.m, classS y ≠ 0
  all : q.out.all inI = true
theorem CompI.below {n0 B M : Nat} {q : Cp} {w w' : World} (h : CompI n0 B M q w) (hb : Below w.heap.size w w') : CompI n0 B M q w' := by
  obtain ⟨⟨vl, la, h1, h2, h3⟩, h4, h5, h6, h7, h8⟩ := h
  exact ⟨⟨vl, la, h1.below hb h1.lt, h2.below hb, h3⟩, h4.below hb, h5, h6, h7, h8⟩
theorem own_nomap {e base : Nat} {w : World} {v : Value} {xs : List Int} {L : List Rg} {M : Nat} (h : Own .i64 e base w v xs) (hm : MapC L M w) : some M ≠ v.ownBlock := by
  obtain ⟨es, clock, hM, -⟩ := hm
  rcases h.2 with ⟨rfl, _⟩ | ⟨g, cap, cur, rfl, _, hg, _⟩
  · simp [Value.ownBlock]
  · intro he
    have e' : M = g := by simpa [Value.ownBlock] using he
    rw [e', hg] at hM
    cases hM
/-- a map elsewhere turns -/
theorem Own.mapTurn {e base : Nat} {w w' : World} {v : Value} {xs : List Int} {L : List Rg} {M : Nat} (h : Own .i64 e base w v xs) (hm : MapC L M w) (hg : w.grownBy w' (some M)) : Own .i64 e base w' v xs := by
  have hn := own_nomap h hm
  refine World.ownsRow.kept h hg ?_
  cases hb : v.ownBlock with
  | none => exact .inl rfl
  | some c => exact .inr (by rw [hb] at hn; exact fun e => hn e.symm)
theorem CompI.turn {n0 B M : Nat} {q : Cp} {w w' : World} (h : CompI n0 B M q w) (hg : w.grownBy w' (some M)) (hm : MapC tabCanon M w') : CompI n0 B M q w' := by
  obtain ⟨⟨vl, la, h1, h2, h3⟩, h4, h5, h6, h7, h8⟩ := h
  exact ⟨⟨vl, la, (hg.block B h1.lt (fun e => h4.nobox h1 (by injection e))).trans h1, h2.mapTurn h4 hg, h3⟩, hm, h5, h6, h7, h8⟩
/-- what is between the starter and c, by the fields -/
theorem off_fields {q : Cp} {S c la : Int} (hs : q.s = some S) (hnz : ∀ y ∈ q.m, classS y ≠ 0) (hla : ∀ y, q.m.getLast? = some y → la = classS y) :
    offG classS q.m c = (decide (stOf q < (q.out.length : Int) - 1) && decide (classS c ≤ la)) := by
  have hl : q.out.length = q.p.length + (1 + q.m.length) := by unfold Cp.out; rw [hs]; simp; omega
  have hst : stOf q = (q.p.length : Int) := by unfold stOf; rw [hs]
  unfold offG
  rw [hst, hl]
  cases hg : q.m.getLast? with
  | none =>
    have hm : q.m = [] := List.getLast?_eq_none_iff.1 hg
    rw [hm]
    have : decide (((q.p.length : Int)) < ((q.p.length + (1 + ([] : List Int).length) : Nat) : Int) - 1) = false := decide_eq_false (by simp)
    rw [this]
    rfl
  | some y =>
    have hy : y ∈ q.m := List.mem_of_getLast? hg
    have hpos : 0 < q.m.length := List.length_pos_of_mem hy
    have h1 : (classS y == 0) = false := by simpa using hnz y hy
    have h2 : decide (((q.p.length : Int)) < ((q.p.length + (1 + q.m.length) : Nat) : Int) - 1) = true := decide_eq_true (by omega)
    rw [h2]
    simp only [h1, Bool.false_or, Bool.true_and, hla y hg]

set_option maxHeartbeats 2000000 in
theorem cmpBlocks (B n cap : Nat) (a : Option Addr) (st la cl : Int) (u : Value) (w : World) (h : Box 83 [.slice a n cap, .int .i64 st, .int .i64 la, u] B w) (hn : n ≤ 1000000) (r : Bool) (hr : r = (decide (st < (n : Int) - 1) && decide (cl ≤ la))) :
    Calls Try.prog 55 #[.pointer (some ⟨B, 0, none⟩), .int .i64 cl] w fun e w' => e = .returned (.bool r) ∧ Below w.heap.size w w' := by
  have x0 := h.cell 0
  have x1 := h.cell 1
  have x2 := h.cell 2
  simp only [List.getElem?_cons_zero, List.getElem?_cons_succ] at x0 x1 x2
  clear h
  by_cases h1 : st < (n : Int) - 1
  · have e1 : decide (st < (n : Int) - 1) = true := decide_eq_true h1
    have HR := hid (show r = decide (cl ≤ la) by rw [hr, e1]; rfl)
    clear hr h1
    go_enter Try.func55, Try.ntmps55
    go_wp2
    go_quiet (fail)
    go_wp2
    go_ret
    exact ⟨by rw [HR.out]; rfl, below_drewN _⟩
  · have e1 : decide (st < (n : Int) - 1) = false := decide_eq_false h1
    have HR := hid (show r = false by rw [hr, e1]; rfl)
    clear hr h1
    go_enter Try.func55, Try.ntmps55
    go_wp2
    go_quiet (fail)
    go_wp2
    go_ret
    exact ⟨by rw [HR.out]; rfl, below_drewN _⟩

/-- a world in which the map in block M has turned, and nothing else that W holds -/
structure LaterC (W : World) (M : Nat) where
  w : World
  grown : W.grownBy w (some M)
  map : MapC tabCanon M w
theorem region_laterC {P : Program} {id : Nat} {Q : Exit → Act → World → Prop} {a : Act} {w : World} {M : Nat} {l : List Oper} (hm : P.follows .mixedOrders = true) (hB : Region.lexB .any l.toArray = true) (hmc : MapC tabCanon M w)
    (h : wpQuiet P l.toArray (fun w' => ∃ u : LaterC w M, w' = u.w) (fun a' => ∀ w', (∃ u : LaterC w M, w' = u.w) → Q .normal a' w') l a) : (Code.region id l.toArray true).wp P Q a w :=
  wp_region_quiet (C := fun w' => ∃ u : LaterC w M, w' = u.w) hm hB ⟨⟨w.drew, grown_below (Below.refl _ _).drew _, hmc.below (Below.refl _ _).drew⟩, rfl⟩ (by simpa using h)
theorem LaterC.cell {W : World} {M : Nat} (u : LaterC W M) {p : Addr} {v : Value} (h : W.cell? p = some v) (hM : p.block ≠ M) : u.w.cell? p = some v := by
  have hb : u.w.heap[p.block]? = W.heap[p.block]? := u.grown.block p.block (World.block_lt_of_cell? W _ h) (fun e => hM (by injection e))
  simp only [World.cell?, hb]
  exact h
theorem laterC_two {W : World} {M : Nat} (a b : Int) (ha : inI a = true) (hb : inI b = true) (u : LaterC W M) :
    Calls Try.prog 56 #[.map (some M), .int .i64 a, .int .i64 b] u.w fun e w'' => e = .returned (.tuple #[.int .i64 (twoS a b).1, .bool (twoS a b).2]) ∧ ∃ u' : LaterC W M, w'' = u'.w :=
  (answersTwo M a b u.w u.map ha hb).mono fun _ w'' ⟨he, hg, hm⟩ => ⟨he, ⟨w'', grown_trans u.grown hg, hm⟩, rfl⟩
end Go.Proofs.Ytdncmdpacidgmaa
