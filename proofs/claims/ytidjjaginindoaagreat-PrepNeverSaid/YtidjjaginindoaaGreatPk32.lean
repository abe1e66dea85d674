/- Several texts in one: CmpOk, Cmp10b, Cmp10c, Cmp10d, Cmp10e, Cmp10f. -/
import Derived.Test.YtidjjaginindoaaGreatPk20
import Derived.Test.YtidjjaginindoaaGreatPk7
import Derived.Test.YtidjjaginindoaaGreatPk3
import Derived.Test.YtidjjaginindoaaGreatPk12
import Derived.Test.YtidjjaginindoaaGreatPk11
import Derived.BigQuiet
/-! CmpOk -/
namespace Go.Proofs.YtidjjaginindoaaGreat
open Go.RowKit

def CTwoOk : Prop := ∀ (a b : Int) (w : World), I64n a → I64n b → Calls Tryz.prog 127 #[.int .i64 a, .int .i64 b] w fun e w' => e = .returned (.tuple #[.int .i64 (twoS a b).1, .bool (twoS a b).2]) ∧ Below w.heap.size w w'
def CAllOk : Prop := ∀ (v : Value) (s : List Int) (w : World), Sl .i64 w v s → s.all inI = true → s.length ≤ 1000000 → Calls Tryz.prog 47 #[v] w fun e w' => ∃ x, e = .returned x ∧ Own .i64 3 w.heap.size w' x (compG classS twoS s) ∧ Below w.heap.size w w'
theorem comp_inI {s : List Int} (hi : s.all inI = true) : (compG classS twoS s).all inI = true :=
  List.all_eq_true.2 (comp_all (cl := classS) (R := fun x => inI x = true) (fun _ _ h => two_inI h) s (fun x hx => List.all_eq_true.1 hi x hx))
theorem put_mem {cl : Int → Int} {s : List Int} {x : Int} (h : x ∈ putO cl s) : x ∈ s := by
  have key : ∀ (s acc : List Int), x ∈ putFrom cl s acc → x ∈ s ∨ x ∈ acc := fun s => by
    induction s with
    | nil => intro acc h; exact .inr h
    | cons y s ih =>
      intro acc h
      rcases ih _ h with h | h
      · exact .inl (List.mem_cons_of_mem _ h)
      · have k2 : ∀ acc : List Int, x ∈ insG cl y acc → x = y ∨ x ∈ acc := fun acc => by
          induction acc with
          | nil => intro h; exact .inl (by simpa [insG] using h)
          | cons z r ih2 =>
            intro h
            rw [insG] at h
            split at h
            · rcases List.mem_cons.1 h with h | h
              · exact .inr (by simp [h])
              · rcases ih2 h with h | h
                · exact .inl h
                · exact .inr (List.mem_cons_of_mem _ h)
            · rcases List.mem_cons.1 h with h | h
              · exact .inl h
              · exact .inr h
        rcases k2 acc h with h | h
        · exact .inl (by simp [h])
        · exact .inr h
  unfold putO at h
  rw [List.mem_reverse] at h
  rcases key s [] h with h | h
  · exact h
  · cases h
theorem put_inI {cl : Int → Int} {s : List Int} (hi : s.all inI = true) : (putO cl s).all inI = true :=
  List.all_eq_true.2 fun x hx => List.all_eq_true.1 hi x (put_mem hx)
set_option maxRecDepth 1000000 in
theorem w10_one : compG classS twoS [65, 803, 770] = [7852] := by decide +kernel
set_option maxRecDepth 1000000 in
theorem w10_two : compG classS twoS [4352, 4449, 4520] = [44033] := by decide +kernel
set_option maxRecDepth 1000000 in
theorem w10_three : compG classS twoS [65, 795, 803, 768] = [7840, 795, 768] := by decide +kernel

end Go.Proofs.YtidjjaginindoaaGreat

/-! Cmp10b -/
namespace Go.Proofs.YtidjjaginindoaaGreat
open Go.RowKit Go.Shelf

theorem inI_I64c {c : Int} (h : inI c = true) : I64n c := by
  unfold inI at h
  rw [decide_eq_true_iff] at h
  exact h
set_option maxHeartbeats 2000000 in
theorem compTwo : CTwoOk := by
  intro a b w ha hb
  obtain ⟨R, hR⟩ : ∃ x, x = joinS a b := ⟨_, rfl⟩
  have HJ := hid (fun w => joinOk a b w ha hb)
  rw [← hR] at HJ
  obtain ⟨T, hT⟩ : ∃ x, x = twoS a b := ⟨_, rfl⟩
  rw [← hT]
  obtain ⟨c, k⟩ := R
  cases k with
  | true =>
    have HR := hid (show T = (c, true) by rw [hT]; unfold twoS; rw [← hR]; rfl)
    clear hR hT
    go_enter Tryz.func127, Tryz.ntmps127
    go_wp2_with (go_at_call 111; refine (HJ.out _).mono ?_; rintro e w1 ⟨rfl, hb1⟩; have HB1 := hid hb1; clear hb1)
    go_ret2
    exact ⟨by rw [HR.out]; rfl, HB1.out⟩
  | false =>
    have HR := hid (show T = pairS a b by rw [hT]; unfold twoS; rw [← hR]; rfl)
    have HP := hid (fun w => ucdPair a b w)
    obtain ⟨P, hP⟩ : ∃ x, x = pairS a b := ⟨_, rfl⟩
    rw [← hP] at HR HP
    obtain ⟨p, o⟩ := P
    clear hR hT hP
    go_enter Tryz.func127, Tryz.ntmps127
    go_wp2_with (first
      | (go_at_call 111; refine (HJ.out _).mono ?_; rintro e w1 ⟨rfl, hb1⟩; have HB1 := hid hb1; clear hb1)
      | (go_at_call 134; refine (HP.out _).mono ?_; rintro e w2 ⟨rfl, hb2⟩; have HB2 := hid (HB1.out.trans (hb2.mono HB1.out.size)); clear hb2))
    go_ret2
    exact ⟨by rw [HR.out]; rfl, HB2.out⟩

theorem loadAns {a b c : Value} {B : Nat} {w : World} (h : Box 111 [a, b, c] B w) : (loadVar 111 ⟨B, 0, none⟩).run Tryz.prog w = .ok (.agg #[a, b, c]) w := by
  have k0 := h.cell 0
  have k1 := h.cell 1
  have k2 := h.cell 2
  simp only [List.getElem?_cons_zero, List.getElem?_cons_succ] at k0 k1 k2
  simp [go_sem, k0, k1, k2]
/-- three cells of a block, written over -/
def put3 (W : World) (B : Nat) (x y z : Value) : World := ((W.setCell ⟨B, 0, none⟩ x).setCell ⟨B, 1, none⟩ y).setCell ⟨B, 2, none⟩ z
theorem Box.put3 {t : TypeId} {a b c : Value} {B : Nat} {w : World} (h : Box t [a, b, c] B w) (x y z : Value) : Box t [x, y, z] B (put3 w B x y z) := ((h.set 0 x).set 1 y).set 2 z
theorem below_put3 {base B : Nat} {w0 w : World} (h : Below base w0 w) (hB : base ≤ B) (x y z : Value) : Below base w0 (put3 w B x y z) := ((h.setCell hB _).setCell hB _).setCell hB _

set_option maxHeartbeats 2000000 in
theorem cmpAsk (a b : Int) (w : World) (ha : inI a = true) (hb : inI b = true) : Calls Tryz.prog 112 #[.int .i64 a, .int .i64 b] w fun e w' => e = .returned (av true (twoS a b).1 (twoS a b).2) ∧ Below w.heap.size w w' := by
  have HT := hid (fun w => compTwo a b w (inI_I64c ha) (inI_I64c hb))
  obtain ⟨⟨c, o⟩, hT⟩ : ∃ x, x = twoS a b := ⟨_, rfl⟩
  rw [← hT] at HT ⊢
  have HX := hid (Box.made w 111 [.bool false, .int .i64 0, .bool false])
  clear hT ha hb
  go_enter Tryz.func112, Tryz.ntmps112
  go_wp2_with (go_at_call 127; refine (HT.out _).mono ?_; rintro e w1 ⟨rfl, hb1⟩; have HX1 := hid (HX.out.below hb1 HX.out.lt); have x0 := HX1.out.cell 0; have x1 := HX1.out.cell 1; have x2 := HX1.out.cell 2; have z0 := HX1.out.ice 0; have z1 := HX1.out.ice 1; have z2 := HX1.out.ice 2; simp only [List.getElem?_cons_zero, List.getElem?_cons_succ] at x0 x1 x2; have HB1 := hid (Below.trans (show Below w.heap.size w _ from by (repeat (first | exact Below.refl _ _ | exact below_drewN _ | refine Below.drew ?_ | refine Below.alloc ?_ (by simp) _ | refine Below.setCell ?_ (by simp) _ | refine below_drewN' ?_ _))) (hb1.mono (by simp))); clear hb1)
  refine bodyPost_ret (results_one rfl rfl (loadAns (HX1.out.put3 _ _ _))) rfl ⟨rfl, below_put3 HB1.out (Nat.le_refl _) _ _ _⟩

/-- storing at a pair of numbers -/
theorem wpList_storeP {w : World} {ops : Array Oper} {rest : List Oper} {o : Oper} {ac : Act} {Q : Exit → Act → World → Prop} (hg : o.guard = none) (m x y : Operand) (hop : o.op = Op.mapUpdate 90 m x y)
    (M : Nat) (a b : Int) (k : Bool) (c : Int) (ok : Bool) {L : List Rg} (h : MapC L M w) (ha : inI a = true) (hb : inI b = true) (hc : AnsOk a b k c ok) (hm : ac.eval m = .map (some M)) (hx : ac.eval x = pv a b) (hy : ac.eval y = av k c ok)
    (hK : ∀ w', w.grownBy w' (some M) → (∀ f, MapC (L ++ [⟨f, a, b⟩]) M w') → wpList Tryz.prog ops Q rest (ac.put o.dst undef) w') : wpList Tryz.prog ops Q (o :: rest) ac w := by
  obtain ⟨w', hrun, hg', hM'⟩ := store_pair h ha hb hc
  refine wpList_plain hg fun K' hK' => ?_
  unfold Oper.wp
  simp [execOp, hop, hm, hx, hy, hrun, Result.andThen]
  exact hK' _ _ (hK w' hg' hM')
/-- whether a pair is among the keys -/
def InMap (a b : Int) (M : Nat) (w : World) : Prop := ∃ es clock, w.heap[M]? = some (.map es clock) ∧ ∃ e ∈ es.toList, e.key = pv a b
theorem wpList_missP {w w0 : World} {ops : Array Oper} {rest : List Oper} {o : Oper} {ac : Act} {Q : Exit → Act → World → Prop} (hg : o.guard = none) (m x : Operand) (hop : o.op = Op.lookup 90 m x true)
    (M : Nat) (a b : Int) {L : List Rg} (h : MapC L M w0) (hb0 : Below w0.heap.size w0 w) (ha : inI a = true) (hb : inI b = true) (hn : ¬ InMap a b M w0) (hm : ac.eval m = .map (some M)) (hx : ac.eval x = pv a b)
    (hK : wpList Tryz.prog ops Q rest (ac.put o.dst (.tuple #[.agg #[.bool false, .int .i64 0, .bool false], .bool false])) w) : wpList Tryz.prog ops Q (o :: rest) ac w := by
  have hlt := h.lt
  obtain ⟨es, clock, hM, h1, h2⟩ := h
  have hM' : w.heap[M]? = some (.map es clock) := (hb0.block M hlt).trans hM
  have hkey := pr_key ha hb
  have ht := Tryz.underlying90
  rcases pr_law.find w hkey es.toList (fun x hx => (h1 x hx).key) with ⟨hf, -⟩ | ⟨j, e0, hf, he, hk⟩
  · have hrun : (Instr.lookup 90 (.map (some M)) (pv a b) true).run Tryz.prog w = .ok (.tuple #[av false 0 false, .bool false]) w := by simp [Instr.lookup, run_underlying ht, MapKept.run_getObj_map hM', pr_law.check w _ hkey, hf, Result.andThen]; rfl
    refine wpList_plain hg fun K' hK' => ?_
    unfold Oper.wp
    simp [execOp, hop, hm, hx, hrun, Result.andThen]
    exact hK' _ _ hK
  · exact absurd ⟨es, clock, hM, e0, List.mem_of_getElem? he, hk⟩ hn
theorem wpList_hitP {w w0 : World} {ops : Array Oper} {rest : List Oper} {o : Oper} {ac : Act} {Q : Exit → Act → World → Prop} (hg : o.guard = none) (m x : Operand) (hop : o.op = Op.lookup 90 m x true)
    (M : Nat) (a b : Int) {L : List Rg} (h : MapC L M w0) (hb0 : Below w0.heap.size w0 w) (ha : inI a = true) (hb : inI b = true) (hn : InMap a b M w0) (hm : ac.eval m = .map (some M)) (hx : ac.eval x = pv a b)
    (hK : ∀ k c ok, AnsOk a b k c ok → wpList Tryz.prog ops Q rest (ac.put o.dst (.tuple #[.agg #[.bool k, .int .i64 c, .bool ok], .bool true])) w) : wpList Tryz.prog ops Q (o :: rest) ac w := by
  have hlt := h.lt
  obtain ⟨es, clock, hM, h1, h2⟩ := h
  have hM' : w.heap[M]? = some (.map es clock) := (hb0.block M hlt).trans hM
  have hkey := pr_key ha hb
  have ht := Tryz.underlying90
  rcases pr_law.find w hkey es.toList (fun x hx => (h1 x hx).key) with ⟨hf, hno⟩ | ⟨j, e0, hf, he, hk⟩
  · obtain ⟨es', clock', hM2, e, hem, hek⟩ := hn
    rw [hM] at hM2
    cases hM2
    exact absurd hek (hno e hem)
  · obtain ⟨a', b', k, c, ok, hk', -, -, hv, hc⟩ := h1 e0 (List.mem_of_getElem? he)
    obtain ⟨rfl, rfl⟩ := pv_inj (hk'.symm.trans hk)
    have hrun : (Instr.lookup 90 (.map (some M)) (pv a' b') true).run Tryz.prog w = .ok (.tuple #[av k c ok, .bool true]) w := by
      rw [← hv]
      simp [Instr.lookup, run_underlying ht, MapKept.run_getObj_map hM', pr_law.check w _ hkey, hf, Result.andThen]
    refine wpList_plain hg fun K' hK' => ?_
    unfold Oper.wp
    simp [execOp, hop, hm, hx, hrun, Result.andThen]
    exact hK' _ _ (hK k c ok hc)
theorem MapC.miss {L : List Rg} {a b : Int} {M : Nat} {w : World} (h : MapC L M w) (hn : ¬ InMap a b M w) : ∀ r ∈ L, ¬ (r.t = a ∧ r.v = b) := fun r hr hrr => by
  obtain ⟨es, clock, hM, -, h2⟩ := h
  obtain ⟨e, hem, hek⟩ := h2 r hr
  rw [hrr.1, hrr.2] at hek
  exact hn ⟨es, clock, hM, e, hem, hek⟩
end Go.Proofs.YtidjjaginindoaaGreat

/-! Cmp10c -/
namespace Go.Proofs.YtidjjaginindoaaGreat
open Go.RowKit Go.Shelf

theorem canon_in : (tabCanon.all fun r => inI r.t && inI r.v) = true ∧ tabCanon.length ≤ 1000 := by decide +kernel
theorem MapC.upto {k : Nat} {M : Nat} {w : World} (hk : k < tabCanon.length) (h : ∀ f, MapC (tabCanon.take k ++ [⟨f, (tabCanon.getD k noRg).t, (tabCanon.getD k noRg).v⟩]) M w) : MapC (tabCanon.take (k + 1)) M w := by
  have := h (tabCanon.getD k noRg).f
  rw [List.take_add_one, List.getElem?_eq_getElem hk]
  rwa [List.getD_eq_getElem?_getD, List.getElem?_eq_getElem hk] at this

theorem Sg.cap_ge {w : World} {a : Option Addr} {n c : Nat} {l : List Rg} (h : Sg w (.slice a n c) l) : l.length ≤ c := by
  obtain ⟨a', cap, hv, hl, -⟩ := h
  injection hv with h1 h2 h3
  omega
theorem MapC.nocell {L : List Rg} {M : Nat} {w : World} (h : MapC L M w) {b o : Nat} {v : Value} (hc : w.cell? ⟨b, o, none⟩ = some v) : b ≠ M := fun e => by
  obtain ⟨es, clock, hm, -⟩ := h
  subst e
  simp [World.cell?, hm] at hc
theorem Sg.map {w w' : World} {v : Value} {l L : List Rg} {M : Nat} (h : Sg w v l) (hm : MapC L M w) (hg : w.grownBy w' (some M)) : Sg w' v l := by
  obtain ⟨a, cap, hv, hl, hx, h⟩ := h
  refine ⟨a, cap, hv, hl, hx, ?_⟩
  rcases h with h | ⟨b, off, ha, hbb, hc⟩
  · exact .inl h
  · refine .inr ⟨b, off, ha, fun h0 => Nat.lt_of_lt_of_le (hbb h0) hg.size, fun i hi => ?_⟩
    obtain ⟨h1, h2, h3⟩ := hc i hi
    have hs : w'.heap[b]? = w.heap[b]? := hg.block b (hbb (by omega)) (fun e => hm.nocell h1 (by injection e))
    have hs' : ∀ o, w'.cell? ⟨b, o, none⟩ = w.cell? ⟨b, o, none⟩ := fun o => by simp only [World.cell?, hs]
    exact ⟨(hs' _).trans h1, (hs' _).trans h2, (hs' _).trans h3⟩

set_option maxRecDepth 10000 in
set_option maxHeartbeats 2000000 in
theorem cmpDecomposed (w : World) : Calls Tryz.prog 76 #[] w fun e w' => e = .returned (.map (some w.heap.size)) ∧ MapC tabCanon w.heap.size w' ∧ Below w.heap.size w w' := by
  obtain ⟨hin, hlen⟩ := canon_in
  have HIN := hid (fun k (hk : k < tabCanon.length) => (show inI (tabCanon.getD k noRg).t = true ∧ inI (tabCanon.getD k noRg).v = true by
    have := List.all_eq_true.1 hin (tabCanon.getD k noRg) (by rw [List.getD_eq_getElem?_getD, List.getElem?_eq_getElem hk]; exact List.getElem_mem _)
    simpa using this))
  obtain ⟨n, hn⟩ : ∃ n, n = tabCanon.length := ⟨_, rfl⟩
  have HN := hid hn
  rw [← hn] at hlen
  clear hin hn
  go_enter Tryz.func76, Tryz.ntmps76
  go_wp2_with (fail)
  simp only [run_makeMap, Result.andThen]
  obtain ⟨W1, hW1⟩ : ∃ W1, W1 = w.alloc (.map #[] 0) := ⟨_, rfl⟩
  have HM0 := hid (show MapC [] w.heap.size W1 by rw [hW1]; exact MapC.nil (heap_alloc_new w (.map #[] 0)))
  have HB0 := hid (show Below w.heap.size w W1 by rw [hW1]; (repeat (first | exact Below.refl _ _ | exact below_drewN _ | refine Below.drew ?_ | refine Below.alloc ?_ (by simp) _ | refine Below.setCell ?_ (by simp) _ | refine below_drewN' ?_ _)))
  rw [← hW1]
  clear hW1
  go_wp2_with (go_at_call 55; refine (apiCanon _).mono ?_; rintro e w1 ⟨v1, rfl, ho1, hb1⟩; have HS1 := hid ho1.sg; obtain ⟨a1, c1, hv1⟩ := ho1.form; rw [← HN.out] at hv1; subst hv1; have HM1 := hid (HM0.out.below hb1); have HB1 := hid (HB0.out.trans (hb1.mono HB0.out.size)); clear ho1 hb1)
  go_loopw [7] (fun iv wr => ∃ k : Nat, k ≤ n ∧ iv = .int .i64 k ∧ Hid (Below w.heap.size w wr) ∧ Hid (Sg wr (.slice a1 n c1) tabCanon) ∧ Hid (MapC (tabCanon.take k) w.heap.size wr)) (fun iv _ => n - (intOf iv).toNat)
  case atStart => exact ⟨0, by omega, rfl, HB1.out, HS1.out, HM1.out⟩
  case round =>
    obtain ⟨k, hk, rfl, hbel, hsg, hmc⟩ := hrel
    by_cases hlt : k < n
    · obtain ⟨av0, cap0, hv0, -, -, c0⟩ := hsg.out
      injection hv0 with hv1 hv2 hv3
      subst hv1 hv3
      rcases c0 with hc | ⟨b1, o1, rfl, hb1, c1⟩
      · have := hsg.out.cap_ge
        have := HN.out
        omega
      have hb1' := hb1 (by have := HN.out; omega)
      obtain ⟨d1, d2, d3⟩ := c1 k (by have := HN.out; omega)
      obtain ⟨i1, i2⟩ := HIN.out k (by have := HN.out; omega)
      have HUP := hid (fun (w' : World) h => MapC.upto (k := k) (M := w.heap.size) (w := w') (by have := HN.out; omega) h)
      clear c1 hv2
      generalize tabCanon.getD k noRg = r at d1 d2 d3 i1 i2 HUP
      obtain ⟨rf, rt, rv⟩ := r
      simp only at d1 d2 d3 i1 i2 HUP
      have HI := hid (And.intro i1 i2)
      clear i1 i2
      have HBW := hid (show Below wr.heap.size wr (wr.alloc (.cells #[.int .i64 rf, .int .i64 rt, .int .i64 rv] 66)) from (Below.refl _ _).alloc (Nat.le_refl _) _)
      go_wp2_with (at_mapUpdate; refine wpList_storeP rfl _ _ _ rfl w.heap.size rt rv false 0 false (hmc.out.below HBW.out) HI.out.1 HI.out.2 (fun h => by cases h) rfl rfl rfl ?_; intro w4 hg4 hm4; have HG4 := hid hg4; have HM4 := hid hm4; clear hg4 hm4)
      go_roundw
      case rel => exact ⟨k + 1, by omega, by go_num, (hbel.out.trans (HBW.out.mono hbel.out.size)).grown HG4.out (Nat.le_trans hbel.out.size HBW.out.size) (fun r e => by injection e with e; omega), (hsg.out.below HBW.out).map (hmc.out.below HBW.out) HG4.out, HUP.out w4 HM4.out⟩
      case measure => simp [intOf]; omega
    · obtain rfl : k = n := by omega
      go_wp2_with (fail)
      go_ret
      exact ⟨rfl, by have := hmc.out; rwa [List.take_of_length_le (by have := HN.out; omega)] at this, hbel.out⟩
end Go.Proofs.YtidjjaginindoaaGreat

/-! Cmp10d -/
namespace Go.Proofs.YtidjjaginindoaaGreat
open Go.RowKit Go.Shelf

theorem MapC.drop {L : List Rg} {r : Rg} {M : Nat} {w : World} (h : MapC (L ++ [r]) M w) : MapC L M w := by
  obtain ⟨es, clock, hm, h1, h2⟩ := h
  exact ⟨es, clock, hm, h1, fun x hx => h2 x (List.mem_append_left _ hx)⟩

set_option maxRecDepth 10000 in
set_option maxHeartbeats 2000000 in
theorem answersTwo (M : Nat) (a b : Int) (w : World) (hm : MapC tabCanon M w) (ha : inI a = true) (hb : inI b = true) :
    Calls Tryz.prog 95 #[.map (some M), .int .i64 a, .int .i64 b] w fun e w' => e = .returned (.tuple #[.int .i64 (twoS a b).1, .bool (twoS a b).2]) ∧ w.grownBy w' (some M) ∧ MapC tabCanon M w' := by
  have HM := hid hm
  have HI := hid (And.intro ha hb)
  have hlt := hm.lt
  by_cases hin : InMap a b M w
  · have HIN := hid hin
    have HA := hid (fun w => cmpAsk a b w ha hb)
    obtain ⟨T, hT⟩ : ∃ x, x = twoS a b := ⟨_, rfl⟩
    have HT := hid hT
    rw [← hT] at HA ⊢
    clear hm ha hb hin hT
    go_enter Tryz.func95, Tryz.ntmps95
    go_wp2_with (first
      | (at_lookup; refine wpList_hitP rfl _ _ rfl M a b HM.out (by (repeat (first | exact Below.refl _ _ | exact below_drewN _ | refine Below.drew ?_ | refine Below.alloc ?_ (by simp) _ | refine Below.setCell ?_ (by simp) _ | refine below_drewN' ?_ _))) HI.out.1 HI.out.2 HIN.out rfl rfl ?_; intro k c ok hok; have HOK := hid hok; clear hok)
      | (go_at_call 112; refine (HA.out _).mono ?_; rintro e w2 ⟨rfl, hb2⟩; simp only [av]; have HX2 := hid ((show Box 111 [.bool k, .int .i64 c, .bool ok] (w.heap.size + 1) ((w.alloc (.cells #[.int .i64 a, .int .i64 b] 112)).alloc (.cells #[.bool k, .int .i64 c, .bool ok] 111)) from box_last w _ _ _).below hb2 (by first | omega | (simp; omega) | simp)); have HB2 := hid (Below.trans (show Below w.heap.size w ((w.alloc (.cells #[.int .i64 a, .int .i64 b] 112)).alloc (.cells #[.bool k, .int .i64 c, .bool ok] 111)) from by (repeat (first | exact Below.refl _ _ | exact below_drewN _ | refine Below.drew ?_ | refine Below.alloc ?_ (by simp) _ | refine Below.setCell ?_ (by simp) _ | refine below_drewN' ?_ _))) (hb2.mono (by first | omega | (simp; omega) | simp))); have HY2 := hid ((show Box 112 [.int .i64 a, .int .i64 b] w.heap.size _ from (Box.made w 112 [.int .i64 a, .int .i64 b]).alloc (.cells #[.bool k, .int .i64 c, .bool ok] 111)).below hb2 (by first | omega | (simp; omega) | simp)); have x0 := HX2.out.cell 0; have x1 := HX2.out.cell 1; have x2 := HX2.out.cell 2; have z0 := HX2.out.ice 0; have z1 := HX2.out.ice 1; have z2 := HX2.out.ice 2; have y0 := HY2.out.cell 0; have y1 := HY2.out.cell 1; simp only [List.getElem?_cons_zero, List.getElem?_cons_succ] at x0 x1 x2 y0 y1; clear hb2)
      | (at_mapUpdate; go_loud (refine wpList_storeP rfl _ _ _ rfl M a b true T.1 T.2 (HM.out.below (show Below w.heap.size w (put3 w2 (w.heap.size + 1) (.bool true) (.int .i64 T.1) (.bool T.2)) from below_put3 HB2.out (by omega) _ _ _)) HI.out.1 HI.out.2 (fun _ => HT.out) rfl rfl rfl ?_); intro w3 hg3 hm3; have HX3 := hid (HX2.out.put3 (.bool true) (.int .i64 T.1) (.bool T.2)); have HG3 := hid hg3; have HM3 := hid hm3))
    · have HBP : Hid (Below w.heap.size w (put3 w2 (w.heap.size + 1) (.bool true) (.int .i64 T.1) (.bool T.2))) := hid (below_put3 HB2.out (by omega) _ _ _)
      have HX4 : Hid (Box 111 [.bool true, .int .i64 T.1, .bool T.2] (w.heap.size + 1) w3) := hid ((HG3.out.block _ HX3.out.lt (fun e => by injection e; omega)).trans HX3.out)
      have t1 := HX4.out.cell 1
      have t2 := HX4.out.cell 2
      simp only [List.getElem?_cons_zero, List.getElem?_cons_succ] at t1 t2
      clear hg3 hm3 x0 x1 x2 y0 y1 z0 z1 z2
      go_quiet (fail)
      go_wp2
      go_ret2
      exact ⟨rfl, grown_trans (grown_below HBP.out _) ⟨HG3.out.os, HG3.out.tape, HG3.out.output, HG3.out.size, HG3.out.block⟩, (HM3.out 0).drop⟩
    · have hk2 : k = true := by have hk := ‹(!k) = false›; simpa using hk
      have HR := hid (HT.out.trans (HOK.out hk2).symm)
      have HX4 : Hid (Box 111 [.bool k, .int .i64 c, .bool ok] (w.heap.size + 1) ((w.alloc (.cells #[.int .i64 a, .int .i64 b] 112)).alloc (.cells #[.bool k, .int .i64 c, .bool ok] 111))) := hid (box_last w _ _ _)
      have HBP : Hid (Below w.heap.size w ((w.alloc (.cells #[.int .i64 a, .int .i64 b] 112)).alloc (.cells #[.bool k, .int .i64 c, .bool ok] 111))) := hid (by (repeat (first | exact Below.refl _ _ | exact below_drewN _ | refine Below.drew ?_ | refine Below.alloc ?_ (by simp) _ | refine Below.setCell ?_ (by simp) _ | refine below_drewN' ?_ _)))
      have t1 := HX4.out.cell 1
      have t2 := HX4.out.cell 2
      simp only [List.getElem?_cons_zero, List.getElem?_cons_succ] at t1 t2
      clear hk2
      go_quiet (fail)
      go_wp2
      go_ret2
      exact ⟨by rw [HR.out]; rfl, grown_below (below_drewN' HBP.out _) _, HM.out.below (below_drewN' HBP.out _)⟩
  · have HJ := hid (fun w => joinOk a b w (inI_I64c ha) (inI_I64c hb))
    rw [two_off (hm.miss hin)]
    have HIN := hid hin
    clear hm ha hb hin
    go_enter Tryz.func95, Tryz.ntmps95
    go_wp2_with (first
      | (at_lookup; go_loud (refine wpList_missP rfl _ _ rfl M a b HM.out (by (repeat (first | exact Below.refl _ _ | exact below_drewN _ | refine Below.drew ?_ | refine Below.alloc ?_ (by simp) _ | refine Below.setCell ?_ (by simp) _ | refine below_drewN' ?_ _))) HI.out.1 HI.out.2 HIN.out rfl rfl ?_))
      | (go_at_call 111; refine (HJ.out _).mono ?_; rintro e w2 ⟨rfl, hb2⟩; have HB2 := hid (Below.trans (show Below w.heap.size w _ from by (repeat (first | exact Below.refl _ _ | exact below_drewN _ | refine Below.drew ?_ | refine Below.alloc ?_ (by simp) _ | refine Below.setCell ?_ (by simp) _ | refine below_drewN' ?_ _))) (hb2.mono (by first | omega | (simp; omega) | simp))); clear hb2))
    go_ret2
    exact ⟨rfl, grown_below HB2.out _, HM.out.below HB2.out⟩
end Go.Proofs.YtidjjaginindoaaGreat

/-! Cmp10e -/
namespace Go.Proofs.YtidjjaginindoaaGreat
open Go.RowKit Go.Shelf

/-- where the starter stands -/
def stOf (q : Cp) : Int := match q.s with
  | none => -1
  | some _ => (q.p.length : Int)
/-- the composition in block B, its map in block M: what has been built so far -/
structure CompI (n0 B M : Nat) (q : Cp) (w : World) : Prop where
  ex : ∃ vl la, Box 93 [vl, .int .i64 (stOf q), .int .i64 la, .map (some M)] B w ∧ Own .i64 3 n0 w vl q.out ∧ ∀ y, q.m.getLast? = some y → la = classS y
  map : MapC tabCanon M w
  hB : n0 ≤ B
  hM : n0 ≤ M
  nz : ∀ y ∈ q.m, classS y ≠ 0
  all : q.out.all inI = true
theorem CompI.below {n0 B M : Nat} {q : Cp} {w w' : World} (h : CompI n0 B M q w) (hb : Below w.heap.size w w') : CompI n0 B M q w' := by
  obtain ⟨⟨vl, la, h1, h2, h3⟩, h4, h5, h6, h7, h8⟩ := h
  exact ⟨⟨vl, la, h1.below hb h1.lt, h2.below hb, h3⟩, h4.below hb, h5, h6, h7, h8⟩
theorem own_nomap {e base : Nat} {w : World} {v : Value} {xs : List Int} {L : List Rg} {M : Nat} (h : Own .i64 e base w v xs) (hm : MapC L M w) : some M ≠ v.ownBlock := by
  obtain ⟨es, clock, hM, -⟩ := hm
  rcases h.2 with ⟨rfl, _⟩ | ⟨g, cap, cur, rfl, _, hg, _⟩
  · simp [Value.ownBlock]
  · intro he
    have e' : M = g := by simpa [Value.ownBlock] using he
    rw [e', hg] at hM
    cases hM
/-- a map elsewhere turns -/
theorem Own.mapTurn {e base : Nat} {w w' : World} {v : Value} {xs : List Int} {L : List Rg} {M : Nat} (h : Own .i64 e base w v xs) (hm : MapC L M w) (hg : w.grownBy w' (some M)) : Own .i64 e base w' v xs := by
  have hn := own_nomap h hm
  refine World.ownsRow.kept h hg ?_
  cases hb : v.ownBlock with
  | none => exact .inl rfl
  | some c => exact .inr (by rw [hb] at hn; exact fun e => hn e.symm)
theorem CompI.turn {n0 B M : Nat} {q : Cp} {w w' : World} (h : CompI n0 B M q w) (hg : w.grownBy w' (some M)) (hm : MapC tabCanon M w') : CompI n0 B M q w' := by
  obtain ⟨⟨vl, la, h1, h2, h3⟩, h4, h5, h6, h7, h8⟩ := h
  exact ⟨⟨vl, la, (hg.block B h1.lt (fun e => h4.nobox h1 (by injection e))).trans h1, h2.mapTurn h4 hg, h3⟩, hm, h5, h6, h7, h8⟩
/-- what is between the starter and c, by the fields -/
theorem off_fields {q : Cp} {S c la : Int} (hs : q.s = some S) (hnz : ∀ y ∈ q.m, classS y ≠ 0) (hla : ∀ y, q.m.getLast? = some y → la = classS y) :
    offG classS q.m c = (decide (stOf q < (q.out.length : Int) - 1) && decide (classS c ≤ la)) := by
  have hl : q.out.length = q.p.length + (1 + q.m.length) := by unfold Cp.out; rw [hs]; simp; omega
  have hst : stOf q = (q.p.length : Int) := by unfold stOf; rw [hs]
  unfold offG
  rw [hst, hl]
  cases hg : q.m.getLast? with
  | none =>
    have hm : q.m = [] := List.getLast?_eq_none_iff.1 hg
    rw [hm]
    have : decide (((q.p.length : Int)) < ((q.p.length + (1 + ([] : List Int).length) : Nat) : Int) - 1) = false := decide_eq_false (by simp)
    rw [this]
    rfl
  | some y =>
    have hy : y ∈ q.m := List.mem_of_getLast? hg
    have hpos : 0 < q.m.length := List.length_pos_of_mem hy
    have h1 : (classS y == 0) = false := by simpa using hnz y hy
    have h2 : decide (((q.p.length : Int)) < ((q.p.length + (1 + q.m.length) : Nat) : Int) - 1) = true := decide_eq_true (by omega)
    rw [h2]
    simp only [h1, Bool.false_or, Bool.true_and, hla y hg]

set_option maxHeartbeats 2000000 in
theorem cmpBlocks (B n cap : Nat) (a : Option Addr) (st la cl : Int) (u : Value) (w : World) (h : Box 93 [.slice a n cap, .int .i64 st, .int .i64 la, u] B w) (hn : n ≤ 1000000) (r : Bool) (hr : r = (decide (st < (n : Int) - 1) && decide (cl ≤ la))) :
    Calls Tryz.prog 94 #[.pointer (some ⟨B, 0, none⟩), .int .i64 cl] w fun e w' => e = .returned (.bool r) ∧ Below w.heap.size w w' := by
  have x0 := h.cell 0
  have x1 := h.cell 1
  have x2 := h.cell 2
  simp only [List.getElem?_cons_zero, List.getElem?_cons_succ] at x0 x1 x2
  clear h
  by_cases h1 : st < (n : Int) - 1
  · have e1 : decide (st < (n : Int) - 1) = true := decide_eq_true h1
    have HR := hid (show r = decide (cl ≤ la) by rw [hr, e1]; rfl)
    clear hr h1
    go_enter Tryz.func94, Tryz.ntmps94
    go_wp2
    go_quiet (fail)
    go_wp2
    go_ret
    exact ⟨by rw [HR.out]; rfl, below_drewN _⟩
  · have e1 : decide (st < (n : Int) - 1) = false := decide_eq_false h1
    have HR := hid (show r = false by rw [hr, e1]; rfl)
    clear hr h1
    go_enter Tryz.func94, Tryz.ntmps94
    go_wp2
    go_quiet (fail)
    go_wp2
    go_ret
    exact ⟨by rw [HR.out]; rfl, below_drewN _⟩

/-- a world in which the map in block M has turned, and nothing else that W holds -/
structure LaterC (W : World) (M : Nat) where
  w : World
  grown : W.grownBy w (some M)
  map : MapC tabCanon M w
theorem region_laterC {P : Program} {id : Nat} {Q : Exit → Act → World → Prop} {a : Act} {w : World} {M : Nat} {l : List Oper} (hm : P.follows .mixedOrders = true) (hB : Region.lexB .any l.toArray = true) (hmc : MapC tabCanon M w)
    (h : wpQuiet P l.toArray (fun w' => ∃ u : LaterC w M, w' = u.w) (fun a' => ∀ w', (∃ u : LaterC w M, w' = u.w) → Q .normal a' w') l a) : (Code.region id l.toArray true).wp P Q a w :=
  wp_region_quiet (C := fun w' => ∃ u : LaterC w M, w' = u.w) hm hB ⟨⟨w.drew, grown_below (Below.refl _ _).drew _, hmc.below (Below.refl _ _).drew⟩, rfl⟩ (by simpa using h)
theorem LaterC.cell {W : World} {M : Nat} (u : LaterC W M) {p : Addr} {v : Value} (h : W.cell? p = some v) (hM : p.block ≠ M) : u.w.cell? p = some v := by
  have hb : u.w.heap[p.block]? = W.heap[p.block]? := u.grown.block p.block (World.block_lt_of_cell? W _ h) (fun e => hM (by injection e))
  simp only [World.cell?, hb]
  exact h
theorem laterC_two {W : World} {M : Nat} (a b : Int) (ha : inI a = true) (hb : inI b = true) (u : LaterC W M) :
    Calls Tryz.prog 95 #[.map (some M), .int .i64 a, .int .i64 b] u.w fun e w'' => e = .returned (.tuple #[.int .i64 (twoS a b).1, .bool (twoS a b).2]) ∧ ∃ u' : LaterC W M, w'' = u'.w :=
  (answersTwo M a b u.w u.map ha hb).mono fun _ w'' ⟨he, hg, hm⟩ => ⟨he, ⟨w'', grown_trans u.grown hg, hm⟩, rfl⟩
end Go.Proofs.YtidjjaginindoaaGreat

/-! Cmp10f -/
namespace Go.Proofs.YtidjjaginindoaaGreat
open Go.RowKit Go.Shelf

theorem box_grow {base : Nat} {w w' : World} {v : Value} {xs : List Int} {cs : List Value} {B : Nat} (hb : Box 93 cs B w) (h : Own .i64 3 base w v xs) (hg : w.grownBy w' v.ownBlock) : Box 93 cs B w' :=
  hb.grown h hg (by decide)
/-- c is appended: a new starter -/
theorem compI_new {n0 B M : Nat} {q : Cp} {w w' : World} {c la : Int} {v : Value} (h : CompI n0 B M q w) (hm : w'.heap[M]? = w.heap[M]?) (hb : Box 93 [v, .int .i64 (q.out.length : Int), .int .i64 la, .map (some M)] B w') (ho : Own .i64 3 n0 w' v (q.out ++ [c])) (hc : inI c = true) :
    CompI n0 B M ⟨q.out, some c, []⟩ w' :=
  ⟨⟨v, la, hb, ho, (fun y hy => by cases hy)⟩, h.map.same hm, h.hB, h.hM, (fun y hy => by cases hy), (by rw [out_new, List.all_append, h.all]; simp [hc])⟩
/-- c is appended: a mark -/
theorem compI_add {n0 B M : Nat} {q : Cp} {w w' : World} {c : Int} {v : Value} (h : CompI n0 B M q w) (hm : w'.heap[M]? = w.heap[M]?) (hb : Box 93 [v, .int .i64 (stOf q), .int .i64 (classS c), .map (some M)] B w') (ho : Own .i64 3 n0 w' v (q.out ++ [c])) (hc : inI c = true) (hz : classS c ≠ 0) :
    CompI n0 B M ⟨q.p, q.s, q.m ++ [c]⟩ w' :=
  ⟨⟨v, classS c, hb, by rw [out_add]; exact ho, fun y hy => by rw [List.getLast?_append] at hy; simp at hy; rw [← hy]⟩, h.map.same hm, h.hB, h.hM, fun y hy => by
    rcases List.mem_append.1 hy with hy | hy
    · exact h.nz y hy
    · obtain rfl : y = c := by simpa using hy
      exact hz, by rw [out_add, List.all_append, h.all]; simp [hc]⟩
/-- c makes one with the starter -/
theorem compI_join {n0 B M : Nat} {q : Cp} {w w' : World} {S c' la : Int} {v : Value} (h : CompI n0 B M q w) (hs : q.s = some S) (hm : w'.heap[M]? = w.heap[M]?) (hb : Box 93 [v, .int .i64 (q.p.length : Int), .int .i64 la, .map (some M)] B w') (ho : Own .i64 3 n0 w' v (q.out.set q.p.length c')) (hc : inI c' = true) (hla : ∀ y, q.m.getLast? = some y → la = classS y) :
    CompI n0 B M ⟨q.p, some c', q.m⟩ w' := by
  have e : (⟨q.p, some c', q.m⟩ : Cp).out = q.out.set q.p.length c' := by
    unfold Cp.out
    rw [hs]
    simp
  refine ⟨⟨v, la, hb, by rw [e]; exact ho, hla⟩, h.map.same hm, h.hB, h.hM, h.nz, ?_⟩
  have := h.all
  unfold Cp.out at this ⊢
  rw [hs] at this
  simp only [Option.toList_some, List.all_append, List.all_cons, List.all_nil, Bool.and_true, Bool.and_eq_true] at this ⊢
  exact ⟨this.1, hc, this.2.2⟩
theorem map_set {W : World} {t : TypeId} {cs : List Value} {B M : Nat} {L : List Rg} (hm : MapC L M W) (hb : Box t cs B W) (j : Nat) (v : Value) : (W.setCell ⟨B, j, none⟩ v).heap[M]? = W.heap[M]? :=
  Below.heap_setCell _ _ _ _ (fun e => hm.nobox hb e.symm)

set_option maxRecDepth 10000 in
set_option maxHeartbeats 4000000 in
theorem cmpAdd (n0 B M : Nat) (q : Cp) (c : Int) (w : World) (h : CompI n0 B M q w) (hn0 : n0 ≤ w.heap.size) (hi : inI c = true) (hlen : q.out.length < 1000000) :
    Calls Tryz.prog 77 #[.pointer (some ⟨B, 0, none⟩), .int .i64 c] w fun e w' => e = .returned (.tuple #[]) ∧ CompI n0 B M (stepG classS twoS q c) w' ∧ Below n0 w w' := by
  have HI := hid hi
  have HK := hid (ucdClass c w)
  obtain ⟨cl, hcl⟩ : ∃ x, x = classS c := ⟨_, rfl⟩
  rw [← hcl] at HK
  have HCL := hid hcl
  obtain ⟨n, hn⟩ : ∃ n, n = q.out.length := ⟨_, rfl⟩
  have HN := hid hn
  rw [← hn] at hlen
  obtain ⟨n1, hn1⟩ : ∃ n1, n1 = (q.out ++ [c]).length := ⟨_, rfl⟩
  have HN1 := hid hn1
  clear hn1
  have HH := hid h
  obtain ⟨⟨vz, lz, hbz, hoz, hlz⟩, hmz, -, -, hnzz, hallz⟩ := h
  obtain ⟨az, cz, hvz⟩ := hoz.sl.form
  rw [← hn] at hvz
  subst hvz
  have HXZ := hid hbz
  have HLZ := hid hlz
  have HMZ := hid hmz
  have HOZ := hid hoz
  clear hlz hmz hoz hi hcl hn
  cases hs : q.s with
  | none =>
    have hst : stOf q = -1 := by unfold stOf; rw [hs]
    have HST := hid hst
    have HNO := hid (show ∀ S, q.s = some S → ((twoS S c).2 && !offG classS q.m c) = false from fun S h => by rw [hs] at h; cases h)
    clear hs hbz hst HXZ
    by_cases hz : cl = 0
    · have e1 : (cl == 0) = true := by rw [hz]; rfl
      have HZ := hid hz
      clear hz
      go_enter Tryz.func77, Tryz.ntmps77
      go_wp2_with (first
        | (go_at_call 93; refine HK.out.mono ?_; rintro e wx ⟨rfl, hb1⟩; have HC := hid (HH.out.below hb1); have HBX := hid (hb1.mono hn0); clear hb1; obtain ⟨⟨vl, la, hbx, hown, hla⟩, hmp, hB0, hM0, hnz, hal⟩ := HC.out; rw [HST.out] at hbx; obtain ⟨al, cp, hvl⟩ := hown.sl.form; rw [← HN.out] at hvl; subst hvl; have HX := hid hbx; have HO := hid hown; have HMP := hid hmp; have HB0 := hid hB0; have x0 := hbx.cell 0; have x1 := hbx.cell 1; have x2 := hbx.cell 2; have f0 := hbx.ice 0; have f1 := hbx.ice 1; have f2 := hbx.ice 2; have HBS := hid hbx.lt; simp only [List.getElem?_cons_zero, List.getElem?_cons_succ] at x0 x1 x2; have HNB := hid (Nat.le_trans hB0 (Nat.le_of_lt hbx.lt)); have HXS := hid (HX.out.set 1 (.int .i64 (n : Int))); have HOS := hid (HO.out.set HX.out (by decide) 1 (.int .i64 (n : Int))); simp only [List.set_cons_succ, List.set_cons_zero] at HXS; clear hbx hown hla hmp hnz hal hB0)
        | (at_builtin; go_loud (refine wpList_app _ rfl _ _ 22 rfl .i64 n0 3 8 Tryz.underlying22 Tryz.infoI64 _ q.out [c] rfl (HOS.out.alloc (.cells #[.int .i64 c] 3)) _ rfl (one_sl (by first | simp | rfl)) (by have := HN.out; unfold maxLen; simp; omega) (by have := HN.out; simp; omega) (by have := HNB.out; simp; omega) ?_); intro v6 w6 ho6 hg6 hb6 hn6; obtain ⟨a6, c6, hv6⟩ := ho6.sl.form; rw [← HN1.out] at hv6; subst hv6; have HO6 := hid ho6; have HM6 : Hid (w6.heap[M]? = wx.heap[M]?) := hid ((hg6.block M (by have := HMP.out.lt; simp; omega) (own_nomap HO.out HMP.out)).trans ((Below.heap_alloc _ _ _ (by have := HMP.out.lt; simp; omega)).trans (map_set HMP.out HX.out 1 (.int .i64 (n : Int))))); have HX6 := hid (box_grow (HXS.out.alloc (.cells #[.int .i64 c] 3)) (HOS.out.alloc (.cells #[.int .i64 c] 3)) hg6); have HB6 : Hid (Below n0 wx w6) := hid (Below.trans (show Below n0 wx _ from ((Below.refl n0 wx).setCell HB0.out _).alloc (by have := HNB.out; simp; omega) _) hb6); have y0 := HX6.out.cell 0; have y1 := HX6.out.cell 1; have y2 := HX6.out.cell 2; have g0 := HX6.out.ice 0; have g1 := HX6.out.ice 1; have g2 := HX6.out.ice 2; simp only [List.getElem?_cons_zero, List.getElem?_cons_succ] at y0 y1 y2; clear ho6 hg6 hb6 hn6))
      go_end0
      have k1 := HX6.out.set 0 (.slice a6 n1 c6)
      have k2 := k1.set 2 (.int .i64 cl)
      have HM6' := HMP.out.same HM6.out
      have m1 := map_set HM6' HX6.out 0 (.slice a6 n1 c6)
      have m2 := map_set (HM6'.same m1) k1 2 (.int .i64 cl)
      simp only [List.set_cons_succ, List.set_cons_zero] at k1 k2
      refine ⟨rfl, ?_, ((HBX.out.trans HB6.out).setCell HB0.out _).setCell HB0.out _⟩
      rw [HN.out] at k2
      rw [step_new (by rw [← HCL.out]; exact HZ.out) HNO.out]
      exact compI_new HC.out ((m2.trans m1).trans HM6.out) k2 ((HO6.out.set HX6.out (by decide) 0 (.slice a6 n1 c6)).set k1 (by decide) 2 _) HI.out
    · have e1 : (cl == 0) = false := by simpa using hz
      have HZ := hid hz
      clear hz
      go_enter Tryz.func77, Tryz.ntmps77
      go_wp2_with (first
        | (go_at_call 93; refine HK.out.mono ?_; rintro e wx ⟨rfl, hb1⟩; have HC := hid (HH.out.below hb1); have HBX := hid (hb1.mono hn0); clear hb1; obtain ⟨⟨vl, la, hbx, hown, hla⟩, hmp, hB0, hM0, hnz, hal⟩ := HC.out; rw [HST.out] at hbx; obtain ⟨al, cp, hvl⟩ := hown.sl.form; rw [← HN.out] at hvl; subst hvl; have HX := hid hbx; have HO := hid hown; have HMP := hid hmp; have HB0 := hid hB0; have x0 := hbx.cell 0; have x1 := hbx.cell 1; have x2 := hbx.cell 2; have f0 := hbx.ice 0; have f1 := hbx.ice 1; have f2 := hbx.ice 2; have HBS := hid hbx.lt; simp only [List.getElem?_cons_zero, List.getElem?_cons_succ] at x0 x1 x2; have HNB := hid (Nat.le_trans hB0 (Nat.le_of_lt hbx.lt)); have HXS := hid (HX.out.set 1 (.int .i64 (n : Int))); have HOS := hid (HO.out.set HX.out (by decide) 1 (.int .i64 (n : Int))); simp only [List.set_cons_succ, List.set_cons_zero] at HXS; clear hbx hown hla hmp hnz hal hB0)
        | (at_builtin; go_loud (refine wpList_app _ rfl _ _ 22 rfl .i64 n0 3 8 Tryz.underlying22 Tryz.infoI64 _ q.out [c] rfl (HO.out.alloc (.cells #[.int .i64 c] 3)) _ rfl (one_sl (by first | simp | rfl)) (by have := HN.out; unfold maxLen; simp; omega) (by have := HN.out; simp; omega) (by have := HNB.out; simp; omega) ?_); intro v6 w6 ho6 hg6 hb6 hn6; obtain ⟨a6, c6, hv6⟩ := ho6.sl.form; rw [← HN1.out] at hv6; subst hv6; have HO6 := hid ho6; have HM6 : Hid (w6.heap[M]? = wx.heap[M]?) := hid ((hg6.block M (by have := HMP.out.lt; simp; omega) (own_nomap HO.out HMP.out)).trans (Below.heap_alloc _ _ _ HMP.out.lt)); have HX6 := hid (box_grow (HX.out.alloc (.cells #[.int .i64 c] 3)) (HO.out.alloc (.cells #[.int .i64 c] 3)) hg6); have HB6 : Hid (Below n0 wx w6) := hid (Below.trans (show Below n0 wx _ from (Below.refl n0 wx).alloc HNB.out _) hb6); have y0 := HX6.out.cell 0; have y1 := HX6.out.cell 1; have y2 := HX6.out.cell 2; have g0 := HX6.out.ice 0; have g1 := HX6.out.ice 1; have g2 := HX6.out.ice 2; simp only [List.getElem?_cons_zero, List.getElem?_cons_succ] at y0 y1 y2; clear ho6 hg6 hb6 hn6))
      go_end0
      have k1 := HX6.out.set 0 (.slice a6 n1 c6)
      have k2 := k1.set 2 (.int .i64 cl)
      have HM6' := HMP.out.same HM6.out
      have m1 := map_set HM6' HX6.out 0 (.slice a6 n1 c6)
      have m2 := map_set (HM6'.same m1) k1 2 (.int .i64 cl)
      simp only [List.set_cons_succ, List.set_cons_zero] at k1 k2
      refine ⟨rfl, ?_, ((HBX.out.trans HB6.out).setCell HB0.out _).setCell HB0.out _⟩
      rw [step_add (by rw [← HCL.out]; exact HZ.out) HNO.out]
      exact compI_add HC.out ((m2.trans m1).trans HM6.out) (by rw [HST.out, ← HCL.out]; exact k2) ((HO6.out.set HX6.out (by decide) 0 (.slice a6 n1 c6)).set k1 (by decide) 2 _) HI.out (by rw [← HCL.out]; exact HZ.out)
  | some S =>
    obtain ⟨p, hp⟩ : ∃ p, p = q.p.length := ⟨_, rfl⟩
    have hst : stOf q = (p : Int) := by unfold stOf; rw [hs, hp]
    have HST := hid hst
    have HS := hid hs
    have HP := hid hp
    have hpn : p < n := by have := HN.out; unfold Cp.out at this; rw [hs] at this; simp at this; omega
    have HIS : Hid (inI S = true) := hid (by unfold Cp.out at hallz; rw [hs] at hallz; simp only [Option.toList_some, List.all_append, List.all_cons, Bool.and_eq_true] at hallz; exact hallz.2.1.1)
    obtain ⟨r, hr⟩ : ∃ r, r = offG classS q.m c := ⟨_, rfl⟩
    have HOFF := hid (show r = (decide ((p : Int) < (n : Int) - 1) && decide (cl ≤ lz)) by rw [hr, off_fields hs hnzz HLZ.out, hst, HN.out, HCL.out])
    rw [hst] at HXZ
    clear hbz hst hp hallz hnzz
    cases r with
    | true =>
      have HNO := hid (show ∀ S, q.s = some S → ((twoS S c).2 && !offG classS q.m c) = false from fun S _ => by rw [← hr]; simp)
      clear hs hr
      by_cases hz : cl = 0
      · have e1 : (cl == 0) = true := by rw [hz]; rfl
        have HZ := hid hz
        clear hz
        go_enter Tryz.func77, Tryz.ntmps77
        go_wp2_with (first
          | (go_at_call 94; refine (cmpBlocks B n cz az (p : Int) lz cl (.map (some M)) w1 HB1.out (by omega) _ HOFF.out).mono ?_; rintro e wx ⟨rfl, hb2⟩; have HC := hid (HC1.out.below hb2); have HBX := hid (HBX1.out.trans (hb2.mono (Nat.le_trans hn0 HB11.out.size))); clear hb2; obtain ⟨⟨vl, la, hbx, hown, hla⟩, hmp, hB0, hM0, hnz, hal⟩ := HC.out; rw [HST.out] at hbx; obtain ⟨al, cp, hvl⟩ := hown.sl.form; rw [← HN.out] at hvl; subst hvl; have HX := hid hbx; have HO := hid hown; have HMP := hid hmp; have HB0 := hid hB0; have x0 := hbx.cell 0; have x1 := hbx.cell 1; have x2 := hbx.cell 2; have f0 := hbx.ice 0; have f1 := hbx.ice 1; have f2 := hbx.ice 2; have HBS := hid hbx.lt; simp only [List.getElem?_cons_zero, List.getElem?_cons_succ] at x0 x1 x2; have HNB := hid (Nat.le_trans hB0 (Nat.le_of_lt hbx.lt)); have HXS := hid (HX.out.set 1 (.int .i64 (n : Int))); have HOS := hid (HO.out.set HX.out (by decide) 1 (.int .i64 (n : Int))); simp only [List.set_cons_succ, List.set_cons_zero] at HXS; clear hbx hown hla hmp hnz hal hB0)
          | (go_at_call 93; refine HK.out.mono ?_; rintro e w1 ⟨rfl, hb1⟩; have HB11 := hid hb1; have HC1 := hid (HH.out.below hb1); have HBX1 := hid (hb1.mono hn0); have HB1 := hid (HXZ.out.below hb1 HXZ.out.lt); have z1 := HB1.out.cell 1; simp only [List.getElem?_cons_zero, List.getElem?_cons_succ] at z1; clear hb1)
          | (at_builtin; go_loud (refine wpList_app _ rfl _ _ 22 rfl .i64 n0 3 8 Tryz.underlying22 Tryz.infoI64 _ q.out [c] rfl (HOS.out.alloc (.cells #[.int .i64 c] 3)) _ rfl (one_sl (by first | simp | rfl)) (by have := HN.out; unfold maxLen; simp; omega) (by have := HN.out; simp; omega) (by have := HNB.out; simp; omega) ?_); intro v6 w6 ho6 hg6 hb6 hn6; obtain ⟨a6, c6, hv6⟩ := ho6.sl.form; rw [← HN1.out] at hv6; subst hv6; have HO6 := hid ho6; have HM6 : Hid (w6.heap[M]? = wx.heap[M]?) := hid ((hg6.block M (by have := HMP.out.lt; simp; omega) (own_nomap HO.out HMP.out)).trans ((Below.heap_alloc _ _ _ (by have := HMP.out.lt; simp; omega)).trans (map_set HMP.out HX.out 1 (.int .i64 (n : Int))))); have HX6 := hid (box_grow (HXS.out.alloc (.cells #[.int .i64 c] 3)) (HOS.out.alloc (.cells #[.int .i64 c] 3)) hg6); have HB6 : Hid (Below n0 wx w6) := hid (Below.trans (show Below n0 wx _ from ((Below.refl n0 wx).setCell HB0.out _).alloc (by have := HNB.out; simp; omega) _) hb6); have y0 := HX6.out.cell 0; have y1 := HX6.out.cell 1; have y2 := HX6.out.cell 2; have g0 := HX6.out.ice 0; have g1 := HX6.out.ice 1; have g2 := HX6.out.ice 2; simp only [List.getElem?_cons_zero, List.getElem?_cons_succ] at y0 y1 y2; clear ho6 hg6 hb6 hn6))
        go_end0
        have k1 := HX6.out.set 0 (.slice a6 n1 c6)
        have k2 := k1.set 2 (.int .i64 cl)
        have HM6' := HMP.out.same HM6.out
        have m1 := map_set HM6' HX6.out 0 (.slice a6 n1 c6)
        have m2 := map_set (HM6'.same m1) k1 2 (.int .i64 cl)
        simp only [List.set_cons_succ, List.set_cons_zero] at k1 k2
        refine ⟨rfl, ?_, ((HBX.out.trans HB6.out).setCell HB0.out _).setCell HB0.out _⟩
        rw [HN.out] at k2
        rw [step_new (by rw [← HCL.out]; exact HZ.out) HNO.out]
        exact compI_new HC.out ((m2.trans m1).trans HM6.out) k2 ((HO6.out.set HX6.out (by decide) 0 (.slice a6 n1 c6)).set k1 (by decide) 2 _) HI.out
      · have e1 : (cl == 0) = false := by simpa using hz
        have HZ := hid hz
        clear hz
        go_enter Tryz.func77, Tryz.ntmps77
        go_wp2_with (first
          | (go_at_call 94; refine (cmpBlocks B n cz az (p : Int) lz cl (.map (some M)) w1 HB1.out (by omega) _ HOFF.out).mono ?_; rintro e wx ⟨rfl, hb2⟩; have HC := hid (HC1.out.below hb2); have HBX := hid (HBX1.out.trans (hb2.mono (Nat.le_trans hn0 HB11.out.size))); clear hb2; obtain ⟨⟨vl, la, hbx, hown, hla⟩, hmp, hB0, hM0, hnz, hal⟩ := HC.out; rw [HST.out] at hbx; obtain ⟨al, cp, hvl⟩ := hown.sl.form; rw [← HN.out] at hvl; subst hvl; have HX := hid hbx; have HO := hid hown; have HMP := hid hmp; have HB0 := hid hB0; have x0 := hbx.cell 0; have x1 := hbx.cell 1; have x2 := hbx.cell 2; have f0 := hbx.ice 0; have f1 := hbx.ice 1; have f2 := hbx.ice 2; have HBS := hid hbx.lt; simp only [List.getElem?_cons_zero, List.getElem?_cons_succ] at x0 x1 x2; have HNB := hid (Nat.le_trans hB0 (Nat.le_of_lt hbx.lt)); have HXS := hid (HX.out.set 1 (.int .i64 (n : Int))); have HOS := hid (HO.out.set HX.out (by decide) 1 (.int .i64 (n : Int))); simp only [List.set_cons_succ, List.set_cons_zero] at HXS; clear hbx hown hla hmp hnz hal hB0)
          | (go_at_call 93; refine HK.out.mono ?_; rintro e w1 ⟨rfl, hb1⟩; have HB11 := hid hb1; have HC1 := hid (HH.out.below hb1); have HBX1 := hid (hb1.mono hn0); have HB1 := hid (HXZ.out.below hb1 HXZ.out.lt); have z1 := HB1.out.cell 1; simp only [List.getElem?_cons_zero, List.getElem?_cons_succ] at z1; clear hb1)
          | (at_builtin; go_loud (refine wpList_app _ rfl _ _ 22 rfl .i64 n0 3 8 Tryz.underlying22 Tryz.infoI64 _ q.out [c] rfl (HO.out.alloc (.cells #[.int .i64 c] 3)) _ rfl (one_sl (by first | simp | rfl)) (by have := HN.out; unfold maxLen; simp; omega) (by have := HN.out; simp; omega) (by have := HNB.out; simp; omega) ?_); intro v6 w6 ho6 hg6 hb6 hn6; obtain ⟨a6, c6, hv6⟩ := ho6.sl.form; rw [← HN1.out] at hv6; subst hv6; have HO6 := hid ho6; have HM6 : Hid (w6.heap[M]? = wx.heap[M]?) := hid ((hg6.block M (by have := HMP.out.lt; simp; omega) (own_nomap HO.out HMP.out)).trans (Below.heap_alloc _ _ _ HMP.out.lt)); have HX6 := hid (box_grow (HX.out.alloc (.cells #[.int .i64 c] 3)) (HO.out.alloc (.cells #[.int .i64 c] 3)) hg6); have HB6 : Hid (Below n0 wx w6) := hid (Below.trans (show Below n0 wx _ from (Below.refl n0 wx).alloc HNB.out _) hb6); have y0 := HX6.out.cell 0; have y1 := HX6.out.cell 1; have y2 := HX6.out.cell 2; have g0 := HX6.out.ice 0; have g1 := HX6.out.ice 1; have g2 := HX6.out.ice 2; simp only [List.getElem?_cons_zero, List.getElem?_cons_succ] at y0 y1 y2; clear ho6 hg6 hb6 hn6))
        go_end0
        have k1 := HX6.out.set 0 (.slice a6 n1 c6)
        have k2 := k1.set 2 (.int .i64 cl)
        have HM6' := HMP.out.same HM6.out
        have m1 := map_set HM6' HX6.out 0 (.slice a6 n1 c6)
        have m2 := map_set (HM6'.same m1) k1 2 (.int .i64 cl)
        simp only [List.set_cons_succ, List.set_cons_zero] at k1 k2
        refine ⟨rfl, ?_, ((HBX.out.trans HB6.out).setCell HB0.out _).setCell HB0.out _⟩
        rw [step_add (by rw [← HCL.out]; exact HZ.out) HNO.out]
        exact compI_add HC.out ((m2.trans m1).trans HM6.out) (by rw [HST.out, ← HCL.out]; exact k2) ((HO6.out.set HX6.out (by decide) 0 (.slice a6 n1 c6)).set k1 (by decide) 2 _) HI.out (by rw [← HCL.out]; exact HZ.out)
    | false =>
      obtain ⟨T, hT⟩ : ∃ x, x = twoS S c := ⟨_, rfl⟩
      have HT := hid hT
      have HTW := hid (fun (wx : World) (u : LaterC wx M) => laterC_two S c HIS.out HI.out u)
      rw [← hT] at HTW
      clear hT
      obtain ⟨c', k⟩ := T
      cases k with
      | true =>
        have HOF := hid hr.symm
        clear hr
        go_enter Tryz.func77, Tryz.ntmps77
        go_wp2_with (first
          | (go_at_call 94; refine (cmpBlocks B n cz az (p : Int) lz cl (.map (some M)) w1 HB1.out (by omega) _ HOFF.out).mono ?_; rintro e wx ⟨rfl, hb2⟩; have HC := hid (HC1.out.below hb2); have HBX := hid (HBX1.out.trans (hb2.mono (Nat.le_trans hn0 HB11.out.size))); clear hb2)
          | (go_at_call 93; refine HK.out.mono ?_; rintro e w1 ⟨rfl, hb1⟩; have HB11 := hid hb1; have HC1 := hid (HH.out.below hb1); have HBX1 := hid (hb1.mono hn0); have HB1 := hid (HXZ.out.below hb1 HXZ.out.lt); have z1 := HB1.out.cell 1; simp only [List.getElem?_cons_zero, List.getElem?_cons_succ] at z1; clear hb1))
        obtain ⟨⟨vy, ly, hby, hoy, -⟩, hmy, -, -, -, -⟩ := HC.out
        rw [HST.out] at hby
        obtain ⟨gy, cy, hvy, hgy, -⟩ := World.ownsRow.form hoy (by rw [← HN.out]; omega)
        rw [← HN.out] at hvy
        subst hvy
        obtain ⟨rest, hrow, -, -, -, -⟩ := RowI.of_own hoy
        have e0 := hrow.at (i := p) (by rw [← HN.out]; exact hpn)
        have eS : q.out.getD p 0 = S := by unfold Cp.out; rw [HS.out, HP.out]; simp
        rw [eS] at e0
        have hgM : gy ≠ M := fun e => by have := own_nomap hoy hmy; simp [Value.ownBlock] at this; exact this e.symm
        have hBM : B ≠ M := hmy.nobox hby
        have y0 := hby.cell 0
        have y1 := hby.cell 1
        have y3 := hby.cell 3
        simp only [List.getElem?_cons_zero, List.getElem?_cons_succ] at y0 y1 y3
        have r0 := fun u : LaterC wx M => u.cell y0 hBM
        have r1 := fun u : LaterC wx M => u.cell y1 hBM
        have r3 := fun u : LaterC wx M => u.cell y3 hBM
        have r4 := fun u : LaterC wx M => u.cell e0 hgM
        have hpi : (p : Int) < (n : Int) := by omega
        have HTX := hid (HTW.out wx)
        have HMY := hid hmy
        clear y0 y1 y3 e0 hby hoy hmy eS hrow
        have hne : Nonempty (LaterC wx M) := ⟨⟨wx, grown_below (Below.refl _ _) _, HMY.out⟩⟩
        refine region_laterC (by kernel_rfl) (by kernel_rfl) HMY.out ?_
        repeat (go_big_quiet_step (first | (go_at_call 95; with_reducible exact HTX.out _)))
        refine wpQuiet_nil ?_
        intro _ hw'
        obtain ⟨u, hw''⟩ := hw'
        subst hw''
        have HC2 := hid (HC.out.turn u.grown u.map)
        have HBX2 : Hid (Below n0 w u.w) := hid (HBX.out.grown u.grown (Nat.le_trans hn0 HBX.out.size) (fun r e => by injection e with e; have := HC.out.hM; omega))
        clear hne r0 r1 r3 r4 HTX HMY HC HBX hgM hBM
        generalize u.w = wx at HC2 HBX2 ⊢
        have HC := HC2
        have HBX := HBX2
        clear HC2 HBX2
        obtain ⟨⟨vy, ly, hby, hoy, hly⟩, hmy, hB0, -, -, -⟩ := HC.out
        rw [HST.out] at hby
        obtain ⟨g, cy, hvy, hgy, -⟩ := World.ownsRow.form hoy (by rw [← HN.out]; omega)
        rw [← HN.out] at hvy
        subst hvy
        obtain ⟨rest, hrow, hg0, -, hcap, hcm⟩ := RowI.of_own hoy
        have hpl : p < q.out.length := by rw [← HN.out]; exact hpn
        have e0 := hrow.at (i := p) hpl
        have e1 := hrow.at0 (i := p) hpl
        have fe := hrow.ice p
        have ho2 := (hrow.set (i := p) hpl c').own (base := n0) (cap := cy) hg0 (by rw [List.length_set, ← HN.out]; exact hcap) hcm
        rw [List.length_set, ← HN.out] at ho2
        have HO2 := hid ho2
        have hgM : g ≠ M := fun e => by have := own_nomap hoy hmy; simp [Value.ownBlock] at this; exact this e.symm
        have hgB : g ≠ B := fun e => by have := Own.other hoy hby (by decide); simp [Value.ownBlock] at this; exact this e.symm
        have HBY := hid ((show (wx.setCell ⟨g, p, none⟩ (.int .i64 c')).heap[B]? = wx.heap[B]? from Below.heap_setCell _ _ _ _ (fun e => hgB e.symm)).trans hby)
        have HMY := hid (show (wx.setCell ⟨g, p, none⟩ (.int .i64 c')).heap[M]? = wx.heap[M]? from Below.heap_setCell _ _ _ _ (fun e => hgM e.symm))
        have HLY := hid hly
        have HG0 := hid hg0
        have y0 := hby.cell 0
        have y1 := hby.cell 1
        simp only [List.getElem?_cons_zero, List.getElem?_cons_succ] at y0 y1
        clear hby hoy hmy hly hrow hcap hcm ho2 hgM hgB hg0 hgy
        go_wp2
        go_region
        go_wp2
        (try simp only [Exit.inBlock, Exit.then]); refine bodyPost_ret (results_none rfl _ _ _) rfl ?_
        refine ⟨rfl, ?_, (HBX.out.setCell HG0.out _).drew⟩
        rw [step_join HS.out (by rw [← HT.out]) HOF.out, ← HT.out]
        exact (compI_join HC.out HS.out HMY.out (by rw [← HP.out]; exact HBY.out) (by rw [← HP.out]; exact HO2.out) (by have := two_inI (a := S) (b := c) (by rw [← HT.out]); rwa [← HT.out] at this) HLY.out).below (Below.refl _ _).drew
      | false =>
        have HNO := hid (show ∀ S, q.s = some S → ((twoS S c).2 && !offG classS q.m c) = false from fun S' h => by rw [hs] at h; cases h; rw [← HT.out]; rfl)
        clear hs hr
        go_enter Tryz.func77, Tryz.ntmps77
        go_wp2_with (first
          | (go_at_call 94; refine (cmpBlocks B n cz az (p : Int) lz cl (.map (some M)) w1 HB1.out (by omega) _ HOFF.out).mono ?_; rintro e wx ⟨rfl, hb2⟩; have HC := hid (HC1.out.below hb2); have HBX := hid (HBX1.out.trans (hb2.mono (Nat.le_trans hn0 HB11.out.size))); clear hb2)
          | (go_at_call 93; refine HK.out.mono ?_; rintro e w1 ⟨rfl, hb1⟩; have HB11 := hid hb1; have HC1 := hid (HH.out.below hb1); have HBX1 := hid (hb1.mono hn0); have HB1 := hid (HXZ.out.below hb1 HXZ.out.lt); have z1 := HB1.out.cell 1; simp only [List.getElem?_cons_zero, List.getElem?_cons_succ] at z1; clear hb1))
        obtain ⟨⟨vy, ly, hby, hoy, -⟩, hmy, -, -, -, -⟩ := HC.out
        rw [HST.out] at hby
        obtain ⟨gy, cy, hvy, hgy, -⟩ := World.ownsRow.form hoy (by rw [← HN.out]; omega)
        rw [← HN.out] at hvy
        subst hvy
        obtain ⟨rest, hrow, -, -, -, -⟩ := RowI.of_own hoy
        have e0 := hrow.at (i := p) (by rw [← HN.out]; exact hpn)
        have eS : q.out.getD p 0 = S := by unfold Cp.out; rw [HS.out, HP.out]; simp
        rw [eS] at e0
        have hgM : gy ≠ M := fun e => by have := own_nomap hoy hmy; simp [Value.ownBlock] at this; exact this e.symm
        have hBM : B ≠ M := hmy.nobox hby
        have y0 := hby.cell 0
        have y1 := hby.cell 1
        have y3 := hby.cell 3
        simp only [List.getElem?_cons_zero, List.getElem?_cons_succ] at y0 y1 y3
        have r0 := fun u : LaterC wx M => u.cell y0 hBM
        have r1 := fun u : LaterC wx M => u.cell y1 hBM
        have r3 := fun u : LaterC wx M => u.cell y3 hBM
        have r4 := fun u : LaterC wx M => u.cell e0 hgM
        have hpi : (p : Int) < (n : Int) := by omega
        have HTX := hid (HTW.out wx)
        have HMY := hid hmy
        clear y0 y1 y3 e0 hby hoy hmy eS hrow
        have hne : Nonempty (LaterC wx M) := ⟨⟨wx, grown_below (Below.refl _ _) _, HMY.out⟩⟩
        refine region_laterC (by kernel_rfl) (by kernel_rfl) HMY.out ?_
        repeat (go_big_quiet_step (first | (go_at_call 95; with_reducible exact HTX.out _)))
        refine wpQuiet_nil ?_
        intro _ hw'
        obtain ⟨u, hw''⟩ := hw'
        subst hw''
        have HC2 := hid (HC.out.turn u.grown u.map)
        have HBX2 : Hid (Below n0 w u.w) := hid (HBX.out.grown u.grown (Nat.le_trans hn0 HBX.out.size) (fun r e => by injection e with e; have := HC.out.hM; omega))
        clear hne r0 r1 r3 r4 HTX HMY HC HBX hgM hBM
        generalize u.w = wx at HC2 HBX2 ⊢
        have HC := HC2
        have HBX := HBX2
        clear HC2 HBX2
        obtain ⟨⟨vl, la, hbx, hown, hla⟩, hmp, hB0, hM0, hnz, hal⟩ := HC.out
        rw [HST.out] at hbx
        obtain ⟨al, cp, hvl⟩ := hown.sl.form
        rw [← HN.out] at hvl
        subst hvl
        have HX := hid hbx
        have HO := hid hown
        have HMP := hid hmp
        have HB0 := hid hB0
        have x0 := hbx.cell 0
        have x1 := hbx.cell 1
        have x2 := hbx.cell 2
        have f0 := hbx.ice 0
        have f1 := hbx.ice 1
        have f2 := hbx.ice 2
        have HBS := hid hbx.lt
        simp only [List.getElem?_cons_zero, List.getElem?_cons_succ] at x0 x1 x2
        have HNB := hid (Nat.le_trans hB0 (Nat.le_of_lt hbx.lt))
        have HXS := hid (HX.out.set 1 (.int .i64 (n : Int)))
        have HOS := hid (HO.out.set HX.out (by decide) 1 (.int .i64 (n : Int)))
        simp only [List.set_cons_succ, List.set_cons_zero] at HXS
        clear hbx hown hla hmp hnz hal hB0
        by_cases hz : cl = 0
        · have e1 : (cl == 0) = true := by rw [hz]; rfl
          have HZ := hid hz
          clear hz
          go_wp2_with (at_builtin; go_loud (refine wpList_app _ rfl _ _ 22 rfl .i64 n0 3 8 Tryz.underlying22 Tryz.infoI64 _ q.out [c] rfl (HOS.out.alloc (.cells #[.int .i64 c] 3)) _ rfl (one_sl (by first | simp | rfl)) (by have := HN.out; unfold maxLen; simp; omega) (by have := HN.out; simp; omega) (by have := HNB.out; simp; omega) ?_); intro v6 w6 ho6 hg6 hb6 hn6; obtain ⟨a6, c6, hv6⟩ := ho6.sl.form; rw [← HN1.out] at hv6; subst hv6; have HO6 := hid ho6; have HM6 : Hid (w6.heap[M]? = wx.heap[M]?) := hid ((hg6.block M (by have := HMP.out.lt; simp; omega) (own_nomap HO.out HMP.out)).trans ((Below.heap_alloc _ _ _ (by have := HMP.out.lt; simp; omega)).trans (map_set HMP.out HX.out 1 (.int .i64 (n : Int))))); have HX6 := hid (box_grow (HXS.out.alloc (.cells #[.int .i64 c] 3)) (HOS.out.alloc (.cells #[.int .i64 c] 3)) hg6); have HB6 : Hid (Below n0 wx w6) := hid (Below.trans (show Below n0 wx _ from ((Below.refl n0 wx).setCell HB0.out _).alloc (by have := HNB.out; simp; omega) _) hb6); have y0 := HX6.out.cell 0; have y1 := HX6.out.cell 1; have y2 := HX6.out.cell 2; have g0 := HX6.out.ice 0; have g1 := HX6.out.ice 1; have g2 := HX6.out.ice 2; simp only [List.getElem?_cons_zero, List.getElem?_cons_succ] at y0 y1 y2; clear ho6 hg6 hb6 hn6)
          go_end0
          have k1 := HX6.out.set 0 (.slice a6 n1 c6)
          have k2 := k1.set 2 (.int .i64 cl)
          have HM6' := HMP.out.same HM6.out
          have m1 := map_set HM6' HX6.out 0 (.slice a6 n1 c6)
          have m2 := map_set (HM6'.same m1) k1 2 (.int .i64 cl)
          simp only [List.set_cons_succ, List.set_cons_zero] at k1 k2
          refine ⟨rfl, ?_, ((HBX.out.trans HB6.out).setCell HB0.out _).setCell HB0.out _⟩
          rw [HN.out] at k2
          rw [step_new (by rw [← HCL.out]; exact HZ.out) HNO.out]
          exact compI_new HC.out ((m2.trans m1).trans HM6.out) k2 ((HO6.out.set HX6.out (by decide) 0 (.slice a6 n1 c6)).set k1 (by decide) 2 _) HI.out
        · have e1 : (cl == 0) = false := by simpa using hz
          have HZ := hid hz
          clear hz
          go_wp2_with (at_builtin; go_loud (refine wpList_app _ rfl _ _ 22 rfl .i64 n0 3 8 Tryz.underlying22 Tryz.infoI64 _ q.out [c] rfl (HO.out.alloc (.cells #[.int .i64 c] 3)) _ rfl (one_sl (by first | simp | rfl)) (by have := HN.out; unfold maxLen; simp; omega) (by have := HN.out; simp; omega) (by have := HNB.out; simp; omega) ?_); intro v6 w6 ho6 hg6 hb6 hn6; obtain ⟨a6, c6, hv6⟩ := ho6.sl.form; rw [← HN1.out] at hv6; subst hv6; have HO6 := hid ho6; have HM6 : Hid (w6.heap[M]? = wx.heap[M]?) := hid ((hg6.block M (by have := HMP.out.lt; simp; omega) (own_nomap HO.out HMP.out)).trans (Below.heap_alloc _ _ _ HMP.out.lt)); have HX6 := hid (box_grow (HX.out.alloc (.cells #[.int .i64 c] 3)) (HO.out.alloc (.cells #[.int .i64 c] 3)) hg6); have HB6 : Hid (Below n0 wx w6) := hid (Below.trans (show Below n0 wx _ from (Below.refl n0 wx).alloc HNB.out _) hb6); have y0 := HX6.out.cell 0; have y1 := HX6.out.cell 1; have y2 := HX6.out.cell 2; have g0 := HX6.out.ice 0; have g1 := HX6.out.ice 1; have g2 := HX6.out.ice 2; simp only [List.getElem?_cons_zero, List.getElem?_cons_succ] at y0 y1 y2; clear ho6 hg6 hb6 hn6)
          go_end0
          have k1 := HX6.out.set 0 (.slice a6 n1 c6)
          have k2 := k1.set 2 (.int .i64 cl)
          have HM6' := HMP.out.same HM6.out
          have m1 := map_set HM6' HX6.out 0 (.slice a6 n1 c6)
          have m2 := map_set (HM6'.same m1) k1 2 (.int .i64 cl)
          simp only [List.set_cons_succ, List.set_cons_zero] at k1 k2
          refine ⟨rfl, ?_, ((HBX.out.trans HB6.out).setCell HB0.out _).setCell HB0.out _⟩
          rw [step_add (by rw [← HCL.out]; exact HZ.out) HNO.out]
          exact compI_add HC.out ((m2.trans m1).trans HM6.out) (by rw [HST.out, ← HCL.out]; exact k2) ((HO6.out.set HX6.out (by decide) 0 (.slice a6 n1 c6)).set k1 (by decide) 2 _) HI.out (by rw [← HCL.out]; exact HZ.out)
end Go.Proofs.YtidjjaginindoaaGreat
