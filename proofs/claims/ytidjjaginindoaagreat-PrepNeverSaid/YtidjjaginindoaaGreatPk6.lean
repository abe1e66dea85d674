/- Several texts in one: Ucd8, Ucd9. -/
import Derived.Test.YtidjjaginindoaaGreatPk5
import Derived.Test.YtidjjaginindoaaGreatPk4
import Derived.Lib.SliceRun
import Derived.Test.YtidjjaginindoaaGreatPk3
/-! Ucd8 -/
namespace Go.Proofs.YtidjjaginindoaaGreat
open Go.RowKit

theorem gv_put : ∀ {l : List Rg} {i : Nat} (r : Rg), i < l.length → (((gv l).set (i * 3) (.int .i64 r.f)).set (i * 3 + 1) (.int .i64 r.t)).set (i * 3 + 2) (.int .i64 r.v) = gv (l.set i r)
  | [], _, _, h => by simp at h
  | _ :: l, 0, r, _ => by simp [gv]
  | _ :: l, i + 1, r, h => by
    have ih := gv_put (l := l) (i := i) r (by simpa using h)
    rw [gv, show (i + 1) * 3 = i * 3 + 3 by omega, show i * 3 + 3 + 1 = i * 3 + 1 + 3 by omega, show i * 3 + 3 + 2 = i * 3 + 2 + 3 by omega]
    simp only [List.set_cons_succ, ih, gv]
/-- a row is written over -/
theorem OwnG.put {e base g n cap : Nat} {w : World} {l : List Rg} (h : OwnG e base w (.slice (some ⟨g, 0, none⟩) n cap) l) {i : Nat} (hi : i < l.length) (r : Rg) :
    OwnG e base (((w.setCell ⟨g, i * 3, none⟩ (.int .i64 r.f)).setCell ⟨g, i * 3 + 1, none⟩ (.int .i64 r.t)).setCell ⟨g, i * 3 + 2, none⟩ (.int .i64 r.v)) (.slice (some ⟨g, 0, none⟩) n cap) (l.set i r) := by
  obtain ⟨h1, h2⟩ := h
  rcases h2 with ⟨h2, hn⟩ | ⟨g', cap', cur, hv, hb, hg, hnc, hcm, hcs, ht⟩
  · cases h2
  · injection hv with hv hn hc
    injection hv with hv
    injection hv with hv
    subst hv hc
    refine ⟨by rw [gv_len], .inr ⟨g, cap, ((cur.setIfInBounds (i * 3) (.int .i64 r.f)).setIfInBounds (i * 3 + 1) (.int .i64 r.t)).setIfInBounds (i * 3 + 2) (.int .i64 r.v), by rw [List.length_set, hn], hb, ?_, by rw [List.length_set]; exact hnc, hcm, by simpa using hcs, ?_⟩⟩
    · simp [World.setCell, Array.getElem?_modify, hg]
    · rw [← gv_put r hi, ← ht]
      simp only [Array.toList_setIfInBounds, List.length_set, List.take_set]
theorem OwnG.block {e base g n cap : Nat} {w : World} {l : List Rg} (h : OwnG e base w (.slice (some ⟨g, 0, none⟩) n cap) l) : n = l.length ∧ base ≤ g ∧ n ≤ cap ∧ cap ≤ maxLen ∧ ∃ cur, w.heap[g]? = some (.cells cur e) ∧ cur.size = cap * 3 ∧ cur.toList.take (l.length * 3) = gv l := by
  obtain ⟨h1, h2⟩ := h
  rcases h2 with ⟨h2, hn⟩ | ⟨g', cap', cur, hv, hb, hg, hnc, hcm, hcs, ht⟩
  · cases h2
  · injection hv with hv hn hc
    injection hv with hv
    injection hv with hv
    subst hv hc
    exact ⟨hn, hb, by omega, hcm, cur, hg, hcs, ht⟩
theorem gv_take : ∀ (l : List Rg) (i : Nat), (gv l).take (i * 3) = gv (l.take i)
  | [], i => by simp [gv]
  | _ :: l, 0 => by simp [gv]
  | _ :: l, i + 1 => by
    rw [show (i + 1) * 3 = i * 3 + 1 + 1 + 1 by omega, gv, List.take_succ_cons, List.take_succ_cons, List.take_succ_cons, gv_take l i, List.take_succ_cons, gv]
/-- cells behind a place are written over -/
theorem setCells_heap (g : Nat) (t : TypeId) : ∀ (vs : List Value) (o : Nat) (w : World) (cur : Array Value), w.heap[g]? = some (.cells cur t) →
    ∃ cur', (w.setCells g o vs).heap[g]? = some (.cells cur' t) ∧ cur'.size = cur.size ∧ cur'.toList.take o = cur.toList.take o ∧ w.grownBy (w.setCells g o vs) (some g)
  | [], o, w, cur, h => ⟨cur, h, rfl, rfl, World.grownBy.refl _ _⟩
  | v :: vs, o, w, cur, h => by
    obtain ⟨cur', h1, h2, h3, h4⟩ := setCells_heap g t vs (o + 1) (w.setCell ⟨g, o, none⟩ v) (cur.setIfInBounds o v) (by simp [World.setCell, Array.getElem?_modify, h])
    refine ⟨cur', h1, by simpa using h2, ?_, grown_trans (grown_set g o v) h4⟩
    have := congrArg (List.take o) h3
    rw [List.take_take, Nat.min_eq_left (by omega), List.take_take, Nat.min_eq_left (by omega), Array.toList_setIfInBounds, List.take_set, List.set_eq_of_length_le (by simp; omega)] at this
    exact this
/-- s[i:], s[:i] of rows of three -/
theorem cut3 {P : Program} (w : World) (t e : TypeId) (ht : P.underlying t = some (.slice e)) {i : TypeInfo} (hi : P.info? e = some i) (hs : i.size = 3) (g n cap k : Nat) (hk : k < n) (hn : n ≤ cap) :
    ((Instr.sliceAt t (.slice (some ⟨g, 0, none⟩) n cap) (some (.int .i64 (k : Int))) none none).run P w = .ok (.slice (some ⟨g, k * 3, none⟩) (n - k) (cap - k)) w ∧ (Instr.slice t (.slice (some ⟨g, 0, none⟩) n cap) (some (.int .i64 (k : Int))) none none).run P w = .ok (.slice (some ⟨g, k * 3, none⟩) (n - k) (cap - k)) w) ∧
    (Instr.sliceAt t (.slice (some ⟨g, 0, none⟩) n cap) none (some (.int .i64 (k : Int))) none).run P w = .ok (.slice (some ⟨g, 0, none⟩) k cap) w ∧ (Instr.slice t (.slice (some ⟨g, 0, none⟩) n cap) none (some (.int .i64 (k : Int))) none).run P w = .ok (.slice (some ⟨g, 0, none⟩) k cap) w := by
  have e1 : (0 : Int) ≤ (k : Int) ∧ (k : Int) ≤ (n : Int) := by omega
  have e5 : ¬ cap = k := by omega
  refine ⟨⟨?_, ?_⟩, ?_, ?_⟩ <;> simp [Instr.sliceAt, Instr.slice, run_underlying ht, Instr.sliceBounds, Instr.sliceBound, asIntOf, sizeOf, typeInfo, hi, hs, e1, e5, Addr.add]
  · rw [if_pos (by omega)]
    by_cases h0 : k * 3 = 0 <;> simp [h0]
  · rw [if_pos (by omega)]
    by_cases h0 : k * 3 = 0 <;> simp [h0]
  · intro hx; omega
  · intro hx; omega
def zs3 (n : Nat) : List Value := (Builtin.zeroCells #[Value.int .i64 0, .int .i64 0, .int .i64 0] n).toList
/-- clear(s[i:]) -/
theorem clear3 {P : Program} (w : World) (t e ty : TypeId) (ht : P.underlying t = some (.slice e)) (hv : ∀ w, (zeroValue e).run P w = .ok (.agg #[.int .i64 0, .int .i64 0, .int .i64 0]) w) (g o n c cap : Nat) (cur : Array Value) (hg : w.heap[g]? = some (.cells cur e)) (hc : cur.size = cap * 3) (hn : o + (n + 1) * 3 ≤ cap * 3) :
    (Builtin.clear_ #[t] ty #[.slice (some ⟨g, o, none⟩) (n + 1) c]).run P w = .ok (.tuple #[]) (w.setCells g o (zs3 (n + 1))) := by
  have hl : (Builtin.zeroCells #[Value.int .i64 0, .int .i64 0, .int .i64 0] (n + 1)).toList.length = (n + 1) * 3 := by simp [Builtin.zeroCells]
  have hz : ∀ v ∈ (Builtin.zeroCells #[Value.int .i64 0, .int .i64 0, .int .i64 0] (n + 1)).toList, v.oneCell' = true := by
    intro v hv
    simp only [Builtin.zeroCells, Array.toList_map, List.mem_map] at hv
    obtain ⟨i, _, rfl⟩ := hv
    have : i % 3 < 3 := Nat.mod_lt _ (by omega)
    show (#[Value.int .i64 0, .int .i64 0, .int .i64 0][i % 3]!).oneCell' = true
    match i % 3, this with
    | 0, _ => rfl
    | 1, _ => rfl
    | 2, _ => rfl
  have hst := run_storeCells_cells (P := P) g o (Builtin.zeroCells #[Value.int .i64 0, .int .i64 0, .int .i64 0] (n + 1)).toList 0 w (fun j hj => by
    rw [hl] at hj
    rw [cell_of_row w g (o + 0 + j) cur e (0, 0) hg, Array.getElem?_eq_getElem (by omega)]
    rfl) (fun j _ => frozen_of_row w g _ cur e hg) hz
  simp only [Nat.add_zero] at hst
  have hcz : (Value.agg #[Value.int .i64 0, .int .i64 0, .int .i64 0]).cells = #[Value.int .i64 0, .int .i64 0, .int .i64 0] := rfl
  simp [Builtin.clear_, run_underlying ht, hv, hcz, hst, zs3]
theorem OwnG.at {e base g n cap : Nat} {w : World} {l : List Rg} (h : OwnG e base w (.slice (some ⟨g, 0, none⟩) n cap) l) {i : Nat} (hi : i < l.length) :
    w.cell? ⟨g, i * 3, none⟩ = some (.int .i64 (l.getD i noRg).f) ∧ w.cell? ⟨g, i * 3 + 1, none⟩ = some (.int .i64 (l.getD i noRg).t) ∧ w.cell? ⟨g, i * 3 + 2, none⟩ = some (.int .i64 (l.getD i noRg).v) ∧
    w.frozen? ⟨g, i * 3, none⟩ = false ∧ w.frozen? ⟨g, i * 3 + 1, none⟩ = false ∧ w.frozen? ⟨g, i * 3 + 2, none⟩ = false := by
  obtain ⟨_, _, _, _, cur, hg, _, ht⟩ := h.block
  have key : ∀ j, j < l.length * 3 → w.cell? ⟨g, j, none⟩ = (gv l)[j]? := fun j hj => by
    rw [cell_of_row w g j cur e (0, 0) hg, ← ht, List.getElem?_take, if_pos hj]
    simp
  obtain ⟨a1, a2, a3⟩ := gv_at hi
  exact ⟨(key _ (by omega)).trans a1, (key _ (by omega)).trans a2, (key _ (by omega)).trans a3, frozen_of_row w g _ cur e hg, frozen_of_row w g _ cur e hg, frozen_of_row w g _ cur e hg⟩
theorem idxP_cases (p : Rg → Bool) (l : List Rg) : (idxP p l 0 = -1 ∧ l.filter (fun r => !p r) = l) ∨
    ∃ k, k < l.length ∧ idxP p l 0 = (k : Int) ∧ l.take k = (l.take (k + 1)).filter (fun r => !p r) := by
  by_cases h : ∀ i, i < l.length → p (l.getD i noRg) = false
  · refine .inl ⟨idxP_none h, List.filter_eq_self.2 fun r hr => ?_⟩
    obtain ⟨i, hi, rfl⟩ := List.getElem_of_mem hr
    have := h i hi
    rw [List.getD_eq_getElem?_getD, List.getElem?_eq_getElem hi] at this
    simpa using this
  · obtain ⟨k, hk, hp, hall⟩ : ∃ k, k < l.length ∧ p (l.getD k noRg) = true ∧ ∀ i, i < k → p (l.getD i noRg) = false := by
      have : ∀ n, (∃ i, i < n ∧ i < l.length ∧ p (l.getD i noRg) = true) → ∃ k, k < l.length ∧ p (l.getD k noRg) = true ∧ ∀ i, i < k → p (l.getD i noRg) = false := fun n => by
        induction n with
        | zero => rintro ⟨i, hi, _⟩; omega
        | succ n ih =>
          rintro ⟨i, hi, hl, hp⟩
          by_cases hx : ∃ i, i < n ∧ i < l.length ∧ p (l.getD i noRg) = true
          · exact ih hx
          · refine ⟨i, hl, hp, fun j hj => ?_⟩
            cases hq : p (l.getD j noRg) with
            | false => rfl
            | true => exact absurd ⟨j, by omega, by omega, hq⟩ hx
      refine this l.length ?_
      apply Classical.byContradiction
      intro hn
      apply h
      intro i hi
      cases hq : p (l.getD i noRg) with
      | false => rfl
      | true => exact absurd ⟨i, hi, hi, hq⟩ hn
    refine .inr ⟨k, hk, idxP_hit hk hall hp, ?_⟩
    rw [List.take_succ_eq_append_getElem hk, List.filter_append]
    have e : l.getD k noRg = l[k] := by rw [List.getD_eq_getElem?_getD, List.getElem?_eq_getElem hk]; rfl
    rw [e] at hp
    rw [List.filter_cons_of_neg (by simp [hp]), List.filter_nil, List.append_nil]
    refine (List.filter_eq_self.2 fun r hr => ?_).symm
    obtain ⟨i, hi, rfl⟩ := List.getElem_of_mem hr
    have hi' : i < k := by simp at hi; omega
    have := hall i hi'
    rw [List.getD_eq_getElem?_getD, List.getElem?_eq_getElem (by omega)] at this
    simpa using this
/-- the state of the pass: what stays lies ahead of place i; from j on nothing has changed -/
def DelSt (p : Rg → Bool) (l m : List Rg) (i j : Nat) : Prop := m.length = l.length ∧ m.take i = (l.take j).filter (fun r => !p r) ∧ m.drop j = l.drop j
theorem DelSt.row {p : Rg → Bool} {l m : List Rg} {i j : Nat} (h : DelSt p l m i j) : m.getD j noRg = l.getD j noRg := by
  have h1 := congrArg (fun x => x.getD 0 noRg) h.2.2
  simpa [List.getD_eq_getElem?_getD, List.getElem?_drop] using h1
theorem DelSt.gone {p : Rg → Bool} {l m : List Rg} {i j : Nat} (h : DelSt p l m i j) (hj : j < l.length) (hp : p (l.getD j noRg) = true) : DelSt p l m i (j + 1) := by
  have e : l.getD j noRg = l[j] := by rw [List.getD_eq_getElem?_getD, List.getElem?_eq_getElem hj]; rfl
  rw [e] at hp
  refine ⟨h.1, ?_, ?_⟩
  · rw [h.2.1, List.take_succ_eq_append_getElem hj, List.filter_append, List.filter_cons_of_neg (by simp [hp]), List.filter_nil, List.append_nil]
  · have := congrArg (List.drop 1) h.2.2
    simpa [List.drop_drop, Nat.add_comm] using this
theorem DelSt.stays {p : Rg → Bool} {l m : List Rg} {i j : Nat} (h : DelSt p l m i j) (hij : i < j) (hj : j < l.length) (hp : p (l.getD j noRg) = false) : DelSt p l (m.set i (l.getD j noRg)) (i + 1) (j + 1) := by
  have e : l.getD j noRg = l[j] := by rw [List.getD_eq_getElem?_getD, List.getElem?_eq_getElem hj]; rfl
  rw [e] at hp ⊢
  have hl := h.1
  refine ⟨by rw [List.length_set]; exact h.1, ?_, ?_⟩
  · rw [List.take_succ_eq_append_getElem hj, List.filter_append, List.filter_cons_of_pos (by simp [hp]), List.filter_nil, ← h.2.1]
    rw [List.take_succ_eq_append_getElem (by rw [List.length_set]; omega), List.getElem_set_self, List.take_set_of_le (Nat.le_refl _)]
  · rw [List.drop_set_of_lt (by omega)]
    have := congrArg (List.drop 1) h.2.2
    simpa [List.drop_drop, Nat.add_comm] using this
theorem DelSt.done {p : Rg → Bool} {l m : List Rg} {i : Nat} (h : DelSt p l m i l.length) : m.take i = l.filter (fun r => !p r) := by
  rw [h.2.1, List.take_length]
end Go.Proofs.YtidjjaginindoaaGreat

/-! Ucd9 -/
namespace Go.Proofs.YtidjjaginindoaaGreat
open Go.RowKit

theorem Tryz.infoR3 : (Tryz.prog.info? 66).map (fun i => (i.zero, i.size, i.bytes)) = some (some (.agg #[.int .i64 0, .int .i64 0, .int .i64 0]), 3, 24) := by kernel_rfl
theorem zero3 (w : World) : (zeroValue 66).run Tryz.prog w = .ok (.agg #[.int .i64 0, .int .i64 0, .int .i64 0]) w := by
  obtain ⟨i0, hi0, hz0, hz1, hz2⟩ := info_parts Tryz.infoR3
  simp [zeroValue, typeInfo, hi0, hz0]

set_option maxHeartbeats 4000000 in
theorem slicesDeleteFunc (p : Rg → Bool) (B1 B2 g n cap base : Nat) (l : List Rg) (w : World) (h : OwnG 66 base w (.slice (some ⟨g, 0, none⟩) n cap) l) (hd : DelAt p B1 B2 g w) :
    Calls Tryz.prog 146 #[.slice (some ⟨g, 0, none⟩) n cap, .func (.func 147) #[] #[.pointer (some ⟨B1, 0, none⟩), .pointer (some ⟨B2, 0, none⟩)]] w fun e w' =>
      ∃ k, e = .returned (.slice (some ⟨g, 0, none⟩) k cap) ∧ OwnG 66 base w' (.slice (some ⟨g, 0, none⟩) k cap) (l.filter fun r => !p r) ∧ w.grownBy w' (some g) := by
  obtain ⟨i0, hi0, hz0, hz1, hz2⟩ := info_parts Tryz.infoR3
  obtain ⟨hnl, hbg, hnc, hcm, _⟩ := h.block
  have ml : n ≤ 9223372036854775807 := by unfold maxLen at hcm; omega
  have HO := hid h
  have HD := hid hd
  have HNL := hid hnl
  clear h hd hnl
  rcases idxP_cases p l with ⟨hi, hf⟩ | ⟨k0, hk0, hi, hf⟩
  · have HI := hid hi
    have HF := hid hf
    clear hi hf
    go_enter Tryz.func146, Tryz.ntmps146
    go_wp2_with (go_at_call 149; refine (slicesIndexFunc p B1 B2 g _ l _ HO.out.sg HD.out).mono ?_; rw [HI.out]; rintro e w1 ⟨rfl, hb1⟩; have HB1 := hid hb1; clear hb1)
    go_ret
    exact ⟨n, rfl, by rw [HF.out]; exact HO.out.below HB1.out, grown_below HB1.out _⟩
  · have HI := hid hi
    have HST := hid (show DelSt p l l k0 (k0 + 1) from ⟨rfl, hf, rfl⟩)
    have hkn : k0 < n := by have := HNL.out; omega
    clear hi hf hk0
    have hb9 : ((k0 : Int) == -1) = false := by
      cases hq : ((k0 : Int) == -1) with
      | false => rfl
      | true => have := eq_of_beq hq; omega
    go_enter Tryz.func146, Tryz.ntmps146
    go_wp2_with (go_at_call 149; refine (slicesIndexFunc p B1 B2 g _ l _ HO.out.sg HD.out).mono ?_; rw [HI.out]; rintro e w1 ⟨rfl, hb1⟩; have HB1 := hid hb1; clear hb1)
    go_loopw [5, 6] (fun iv jv wr => ∃ (i j : Nat) (m : List Rg), iv = .int .i64 i ∧ jv = .int .i64 j ∧ i < j ∧ j ≤ n ∧ Hid (OwnG 66 base wr (.slice (some ⟨g, 0, none⟩) n cap) m) ∧ Hid (DelSt p l m i j) ∧ Hid (w.grownBy wr (some g))) (fun _ jv _ => n - (intOf jv).toNat)
    case atStart => exact ⟨k0, k0 + 1, l, rfl, by go_num, by omega, by omega, HO.out.below HB1.out, HST.out, grown_below HB1.out _⟩
    case round =>
      obtain ⟨i, j, m, rfl, rfl, hij, hjn, hown, hst, hgr⟩ := hrel
      by_cases hlt : j < n
      · have hjl : j < l.length := by have := HNL.out; omega
        have hjm : j < m.length := by have := hst.out.1; omega
        obtain ⟨d1, d2, d3, -⟩ := hown.out.at hjm
        have hrow := hst.out.row
        rw [hrow] at d1 d2 d3
        have HGO := hid (hst.out.gone hjl)
        have HKE := hid (hst.out.stays hij hjl)
        have hX := (show g < wr.heap.size from World.block_lt_of_cell? wr _ d1)
        clear hrow hjl
        generalize l.getD j noRg = r at d1 d2 d3 HGO HKE
        obtain ⟨rf, rt, rv⟩ := r
        simp only at d1 d2 d3
        have HBW := hid (show Below wr.heap.size wr (wr.alloc (.cells #[.int .i64 rf, .int .i64 rt, .int .i64 rv] 66)) by (repeat (first | exact Below.refl _ _ | exact below_drewN _ | refine Below.drew ?_ | refine Below.alloc ?_ (by simp) _ | refine Below.setCell ?_ (by simp) _ | refine below_drewN' ?_ _)))
        have HNW := hid (Box.made wr 66 [.int .i64 rf, .int .i64 rt, .int .i64 rv])
        obtain ⟨b, hb⟩ : ∃ b, b = p ⟨rf, rt, rv⟩ := ⟨_, rfl⟩
        rw [← hb] at HGO HKE
        have HC := hid (HD.out (wr.alloc (.cells #[.int .i64 rf, .int .i64 rt, .int .i64 rv] 66)) (grown_trans hgr.out (grown_below HBW.out _)) rf rt rv)
        rw [← hb] at HC
        clear hb hjm
        cases b with
        | true =>
          have hr := hid (HGO.out rfl)
          go_wp2_with (go_at_call 147; refine HC.out.mono ?_; rintro e wu ⟨rfl, hbu⟩; have HBU := hid (HBW.out.trans (hbu.mono HBW.out.size)); clear hbu)
          go_roundw
          case rel => exact ⟨i, j + 1, m, rfl, by go_num, by omega, by omega, hown.out.below HBU.out, hr.out, grown_trans hgr.out (grown_below HBU.out _)⟩
          case measure => simp [intOf]; omega
        | false =>
          have hr := hid (HKE.out rfl)
          have him : i < m.length := by have := hst.out.1; have := HNL.out; omega
          have HIM := hid him
          clear him
          go_wp2_with (go_at_call 147; refine HC.out.mono ?_; rintro e wu ⟨rfl, hbu⟩; have HNU := hid (HNW.out.below hbu HNW.out.lt); have HBU := hid (HBW.out.trans (hbu.mono HBW.out.size)); clear hbu; have HOU := hid (hown.out.below HBU.out); obtain ⟨w0, w1, w2, z0, z1, z2⟩ := HOU.out.at HIM.out; have y2 := HNU.out.cell 0; have y3 := HNU.out.cell 1; have y4 := HNU.out.cell 2; simp only [List.getElem?_cons_zero, List.getElem?_cons_succ] at y2 y3 y4)
          go_roundw
          case rel => exact ⟨i + 1, j + 1, _, by go_num, by go_num, by omega, by omega, HOU.out.put HIM.out ⟨rf, rt, rv⟩, hr.out, grown_trans hgr.out (grown_trans (grown_below HBU.out _) (grown_trans (grown_trans (grown_set _ _ _) (grown_set _ _ _)) (grown_set _ _ _)))⟩
          case measure => simp [intOf]; omega
      · obtain rfl : j = n := by omega
        have HDN := hid (by have := hst.out; rw [HNL.out] at this; exact this.done)
        have hc := fun w => cut3 (P := Tryz.prog) w 68 66 Tryz.underlying68 hi0 hz1 g j cap i hij hnc
        obtain ⟨d, hd⟩ : ∃ d, d + 1 = j - i := ⟨j - i - 1, by omega⟩
        rw [← hd] at hc
        have c1 := fun w => (hc w).1.1
        have c2 := fun w => (hc w).1.2
        have c3 := fun w => (hc w).2.1
        have c4 := fun w => (hc w).2.2
        obtain ⟨-, -, -, -, cur, hcg, hcs, hct⟩ := hown.out.block
        have c5 := fun ty => clear3 (P := Tryz.prog) wr 68 66 ty Tryz.underlying68 zero3 g (i * 3) d (cap - i) cap cur hcg hcs (by omega)
        obtain ⟨cur', h1, h2, h3, h4⟩ := setCells_heap g 66 (zs3 (d + 1)) (i * 3) wr cur hcg
        have HFIN := hid (show OwnG 66 base (wr.setCells g (i * 3) (zs3 (d + 1))) (.slice (some ⟨g, 0, none⟩) i cap) (l.filter fun r => !p r) by
          have hml : m.length = j := by rw [hst.out.1, ← HNL.out]
          have hl2 : (m.take i).length = i := by rw [List.length_take, hml]; omega
          rw [← HDN.out]
          refine ⟨gv_len _, .inr ⟨g, cap, cur', by rw [hl2], hbg, h1, by rw [hl2]; omega, hcm, by rw [h2]; exact hcs, ?_⟩⟩
          rw [hl2, h3]
          have := congrArg (List.take (i * 3)) hct
          rw [List.take_take, Nat.min_eq_left (by rw [hml]; omega), gv_take] at this
          exact this)
        have HGR := hid (grown_trans hgr.out h4)
        clear hc hd hcg hcs hct h1 h2 h3 h4
        go_wp2_with (fail)
        go_ret
        exact ⟨i, rfl, HFIN.out, HGR.out⟩
end Go.Proofs.YtidjjaginindoaaGreat
