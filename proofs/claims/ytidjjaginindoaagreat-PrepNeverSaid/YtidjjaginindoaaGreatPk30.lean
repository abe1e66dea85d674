/- Several texts in one: App2, Words, RefSets3, StabMath, Stab1, Stab2, Stab3, Stab4, Stab5, Stab6, Stab7, Stab8, Four. -/
import Derived.Test.YtidjjaginindoaaGreatPk1
import Derived.Deep.AppendLies
import Derived.Test.YtidjjaginindoaaGreatPk3
import Derived.Deep.RegionHeld3
import Derived.Test.YtidjjaginindoaaGreatPk13
import Derived.Test.YtidjjaginindoaaGreatPk10
import Derived.BigRegion
import Derived.Deep.DeepCutAuto
/-! App2 -/
namespace Go.Proofs.YtidjjaginindoaaGreat
open Go.RowKit

/-- two rows lie in different blocks -/
def Apt (u v : Value) : Prop := ∀ b, u.ownBlock = some b → v.ownBlock ≠ some b
theorem Apt.turn {u v : Value} (h : Apt u v) : Apt v u := fun b h1 h2 => h b h2 h1
theorem wpList_appI {P : Program} (w : World) {ops : Array Oper} {rest : List Oper} {o : Oper} {a : Act} {Q : Exit → Act → World → Prop} (hgd : o.guard = none) (s x : Operand) (t : TypeId)
    (ho : o.op = .call { callee := .builtin .append, args := #[s, x], argTypes := #[t, t] }) (k : IntKind)
    (base e : Nat) (bytes : Nat) (ht : P.underlying t = some (.slice e)) (hinfo : (P.info? e).map (fun i => (i.zero, i.size, i.bytes)) = some (some (.int k 0), 1, bytes))
    (v : Value) (xs ys : List Int) (hs : a.eval s = v) (hown : Own k e base w v xs) (u : Value) (hx : a.eval x = u) (hu : Sl k w u ys) (hy : 0 < ys.length)
    (h63 : xs.length + ys.length ≤ maxLen) (hbytes : (xs.length + ys.length) * bytes ≤ 140737488355328) (hbase : base ≤ w.heap.size)
    (h : ∀ g cap w', Own k e base w' (.slice (some ⟨g, 0, none⟩) (xs.length + ys.length) cap) (xs ++ ys) → w.grownBy w' v.ownBlock → Below base w w' →
      (∀ z zs, Own k e base w z zs → Apt v z → Own k e base w' z zs ∧ Apt (.slice (some ⟨g, 0, none⟩) (xs.length + ys.length) cap) z) → wpList P ops Q rest (a.put o.dst (.slice (some ⟨g, 0, none⟩) (xs.length + ys.length) cap)) w') : wpList P ops Q (o :: rest) a w := by
  obtain ⟨i, hi, hz0, hz1, hz2⟩ := info_parts hinfo
  obtain ⟨ao, cap, rfl, hl, hm, hu⟩ := hu
  rcases hu with rfl | ⟨b, off, rfl, hbb, hc⟩
  · omega
  · refine wpList_append_lies w hgd s x t ho base e i (.int k 0) 1 bytes ht hi hz0 hz1 hz2 rfl (by decide) v xs.length (xs.map (Value.int k)) hs hown ⟨b, off, none⟩ ys.length cap (ys.map (Value.int k)) hx (by simp) ?_ (ints_oneCell k ys) hy h63 hbytes hbase w.heap.size rfl ?_
    · intro j u hj
      rw [List.getElem?_map] at hj
      have hadd : (⟨b, off, none⟩ : Addr).add j = ⟨b, off + j, none⟩ := by unfold Addr.add; split <;> simp_all
      rcases Nat.lt_or_ge j ys.length with hjl | hjl
      · rw [hadd, hc j hjl, ← hj, List.getD_eq_getElem?_getD, List.getElem?_eq_getElem hjl]; rfl
      · rw [List.getElem?_eq_none hjl] at hj; cases hj
    · intro g cap' w' hown' hg hgg hlt
      refine h g cap' w' (by simpa [Own] using hown') hg ((Below.refl base w).grown hg hbase (fun k hk => (World.ownsRow.lt hown k hk).1)) fun z zs hz hap => ⟨?_, ?_⟩
      · refine World.ownsRow.kept hz hg ?_
        cases hb : z.ownBlock with
        | none => exact .inl rfl
        | some c => exact .inr fun hrow => hap c hrow.symm hb
      · intro c hc1 hc2
        have : g = c := by simpa [Value.ownBlock] using hc1
        subst this
        rcases hgg with hgg | hgg
        · exact hap _ hgg hc2
        · have := hz.lt' g hc2
          omega
theorem Apt.nil (v : Value) : Apt (.slice none 0 0) v := fun b h => by simp [Value.ownBlock] at h
end Go.Proofs.YtidjjaginindoaaGreat

/-! Words -/
namespace Go.Proofs.YtidjjaginindoaaGreat
open Go.RowKit
set_option linter.unusedVariables false

/-- rows of the call's own, each in a block of its own -/
def WrdO (base : Nat) (w : World) (v : Value) (us : List Value) (ws : List (List Int)) : Prop :=
  w.ownsRow base 22 1 v us.length us ∧ us.length = ws.length ∧ (∀ i, i < us.length → Own .i64 3 base w (us.getD i undef) (ws.getD i [])) ∧ (∀ i j, i < j → j < us.length → Apt (us.getD i undef) (us.getD j undef))
theorem row_belowW {base n e : Nat} {w w' : World} {v : Value} {us : List Value} (h : w.ownsRow base e 1 v n us) (hb : Below w.heap.size w w') : w'.ownsRow base e 1 v n us := by
  obtain ⟨h1, h2⟩ := h
  refine ⟨h1, ?_⟩
  rcases h2 with h2 | ⟨g, cap, cur, hv, hg, hh, r⟩
  · exact .inl h2
  · exact .inr ⟨g, cap, cur, hv, hg, by rw [hb.block g (Array.getElem?_eq_some_iff.1 hh).1]; exact hh, r⟩
theorem WrdO.below {base : Nat} {w w' : World} {v : Value} {us : List Value} {ws : List (List Int)} (h : WrdO base w v us ws) (hb : Below w.heap.size w w') : WrdO base w' v us ws :=
  ⟨row_belowW h.1 hb, h.2.1, fun i hi => (h.2.2.1 i hi).below hb, h.2.2.2⟩
theorem WrdO.nil (base : Nat) (w : World) : WrdO base w (.slice none 0 0) [] [] := ⟨World.ownsRow_nil _ _ _ _, rfl, fun i hi => by simp at hi, fun i j _ hj => by simp at hj⟩
theorem WrdO.form {base : Nat} {w : World} {v : Value} {us : List Value} {ws : List (List Int)} (h : WrdO base w v us ws) : ∃ a c, v = .slice a us.length c := by
  rcases h.1.2 with ⟨rfl, hn⟩ | ⟨g, cap, cur, rfl, -⟩
  · exact ⟨none, 0, by rw [hn]⟩
  · exact ⟨_, _, rfl⟩
/-- where the rows' values lie -/
theorem WrdO.block {base : Nat} {w : World} {v : Value} {us : List Value} {ws : List (List Int)} (h : WrdO base w v us ws) (h0 : 0 < us.length) : ∃ g cap, v = .slice (some ⟨g, 0, none⟩) us.length cap ∧ base ≤ g ∧ g < w.heap.size ∧ (∀ i, i < us.length → w.cell? ⟨g, i, none⟩ = some (us.getD i undef)) ∧ (∀ i, w.frozen? ⟨g, i, none⟩ = false) ∧ ∃ cs, Box 22 cs g w := by
  rcases h.1.2 with ⟨-, hn⟩ | ⟨g, cap, cur, rfl, hb, hg, hnc, hcm, hcs, ht⟩
  · omega
  · refine ⟨g, cap, rfl, hb, (Array.getElem?_eq_some_iff.1 hg).1, fun i hi => ?_, fun i => frozen_of_row w g i cur _ hg, cur.toList, by unfold Box; rw [Array.toArray_toList]; exact hg⟩
    rw [cell_of_row w g i cur _ (0, 0) hg]
    have : (cur.toList.take (us.length * 1))[i]? = us[i]? := by rw [ht]
    rw [List.getElem?_take, if_pos (by omega)] at this
    rw [← Array.getElem?_toList, this, List.getD_eq_getElem?_getD, List.getElem?_eq_getElem hi]
    rfl
/-- rows of numbers stay while the slice of them grows or is written -/
theorem WrdO.others {base : Nat} {w w' : World} {v : Value} {us : List Value} {ws : List (List Int)} (h : WrdO base w v us ws) (hg : w.grownBy w' v.ownBlock) {z : Value} {zs : List Int} {b' : Nat} (hz : Own .i64 3 b' w z zs) : Own .i64 3 b' w' z zs := by
  refine World.ownsRow.kept hz hg ?_
  cases hb : z.ownBlock with
  | none => exact .inl rfl
  | some c =>
    refine .inr fun e => ?_
    rcases h.1.2 with ⟨rfl, hn⟩ | ⟨g, cap, cur, rfl, -, hh, -⟩
    · simp [Value.ownBlock] at e
    · exact hz.other (t := 22) (cs := cur.toList) (B := g) (by unfold Box; rw [Array.toArray_toList]; exact hh) (by decide) (by rw [hb]; exact e.symm)
/-- the slice of rows stays while a row grows -/
theorem WrdO.row {base : Nat} {w w' : World} {v : Value} {us : List Value} {ws : List (List Int)} (h : WrdO base w v us ws) {z : Value} {zs : List Int} {b' : Nat} (hz : Own .i64 3 b' w z zs) (hg : w.grownBy w' z.ownBlock) : w'.ownsRow base 22 1 v us.length us := by
  refine World.ownsRow.kept h.1 hg ?_
  rcases h.1.2 with ⟨rfl, hn⟩ | ⟨g, cap, cur, rfl, -, hh, -⟩
  · exact .inl rfl
  · exact .inr fun e => hz.other (t := 22) (cs := cur.toList) (B := g) (by unfold Box; rw [Array.toArray_toList]; exact hh) (by decide) e
/-- a row's value is written over -/
theorem row_set {base g n cap e : Nat} {w : World} {us : List Value} (h : w.ownsRow base e 1 (.slice (some ⟨g, 0, none⟩) n cap) us.length us) {i : Nat} (hi : i < us.length) (u : Value) :
    (w.setCell ⟨g, i, none⟩ u).ownsRow base e 1 (.slice (some ⟨g, 0, none⟩) n cap) us.length (us.set i u) := by
  obtain ⟨h1, h2⟩ := h
  rcases h2 with ⟨h2, hn⟩ | ⟨g', cap', cur, hv, hb, hg, hnc, hcm, hcs, ht⟩
  · cases h2
  · injection hv with hv hn hc
    injection hv with hv
    injection hv with hv
    subst hv hc hn
    refine ⟨by simp, .inr ⟨g, cap, cur.setIfInBounds i u, rfl, hb, ?_, hnc, hcm, by simpa using hcs, ?_⟩⟩
    · simp [World.setCell, Array.getElem?_modify, hg]
    · rw [Array.toList_setIfInBounds, List.take_set, ht]
/-- append(dst, src...) as one operation of a region that draws, with what stays -/
theorem step_appI {P : Program} (w : World) {ops : Array Oper} {o : Oper} {a : Act} {K : Act → World → Prop} {Q : Exit → Act → World → Prop} {E : Prop} (hgd : o.guard = none) (s x : Operand) (t : TypeId)
    (ho : o.op = .call { callee := .builtin .append, args := #[s, x], argTypes := #[t, t] }) (k : IntKind)
    (base e : Nat) (bytes : Nat) (ht : P.underlying t = some (.slice e)) (hinfo : (P.info? e).map (fun i => (i.zero, i.size, i.bytes)) = some (some (.int k 0), 1, bytes))
    (v : Value) (xs ys : List Int) (hs : a.eval s = v) (hown : Own k e base w v xs) (u : Value) (hx : a.eval x = u) (hu : Sl k w u ys) (hy : 0 < ys.length)
    (h63 : xs.length + ys.length ≤ maxLen) (hbytes : (xs.length + ys.length) * bytes ≤ 140737488355328) (hbase : base ≤ w.heap.size)
    (h : ∀ g cap w', Own k e base w' (.slice (some ⟨g, 0, none⟩) (xs.length + ys.length) cap) (xs ++ ys) → w.grownBy w' v.ownBlock → Below base w w' →
      (∀ z zs, Own k e base w z zs → Apt v z → Own k e base w' z zs ∧ Apt (.slice (some ⟨g, 0, none⟩) (xs.length + ys.length) cap) z) → K (a.put o.dst (.slice (some ⟨g, 0, none⟩) (xs.length + ys.length) cap)) w') :
    if Region.wanted o (yielded ops a.tmps) = true then Oper.wp P o a w K Q else E := by
  obtain ⟨i, hi, hz0, hz1, hz2⟩ := info_parts hinfo
  obtain ⟨ao, cap, rfl, hl, hm, hu⟩ := hu
  rcases hu with rfl | ⟨b, off, rfl, hbb, hc⟩
  · omega
  · refine step_append_lies w hgd s x t ho base e i (.int k 0) 1 bytes ht hi hz0 hz1 hz2 rfl (by decide) v xs.length (xs.map (Value.int k)) hs hown ⟨b, off, none⟩ ys.length cap (ys.map (Value.int k)) hx (by simp) ?_ (ints_oneCell k ys) hy h63 hbytes hbase w.heap.size rfl ?_
    · intro j u hj
      rw [List.getElem?_map] at hj
      have hadd : (⟨b, off, none⟩ : Addr).add j = ⟨b, off + j, none⟩ := by unfold Addr.add; split <;> simp_all
      rcases Nat.lt_or_ge j ys.length with hjl | hjl
      · rw [hadd, hc j hjl, ← hj, List.getD_eq_getElem?_getD, List.getElem?_eq_getElem hjl]; rfl
      · rw [List.getElem?_eq_none hjl] at hj; cases hj
    · intro g cap' w' hown' hg hgg hlt
      refine h g cap' w' (by simpa [Own] using hown') hg ((Below.refl base w).grown hg hbase (fun k hk => (World.ownsRow.lt hown k hk).1)) fun z zs hz hap => ⟨?_, ?_⟩
      · refine World.ownsRow.kept hz hg ?_
        cases hb : z.ownBlock with
        | none => exact .inl rfl
        | some c => exact .inr fun hrow => hap c hrow.symm hb
      · intro c hc1 hc2
        have : g = c := by simpa [Value.ownBlock] using hc1
        subst this
        rcases hgg with hgg | hgg
        · exact hap _ hgg hc2
        · have := hz.lt' g hc2
          omega
theorem infoSl : (Tryz.prog.info? 22).map (fun i => (i.zero, i.size, i.bytes)) = some (some (.slice none 0 0), 1, 24) := by kernel_rfl
theorem getD_last {α : Type} (l : List α) (x d : α) : (l ++ [x]).getD l.length d = x := by simp [List.getD_eq_getElem?_getD]
theorem getD_left {α : Type} {l : List α} {x d : α} {i : Nat} (h : i < l.length) : (l ++ [x]).getD i d = l.getD i d := by simp [List.getD_eq_getElem?_getD, List.getElem?_append_left h]
/-- append(rows, nil) -/
theorem wpList_appNil {P : Program} (w : World) {ops : Array Oper} {rest : List Oper} {o : Oper} {a : Act} {Q : Exit → Act → World → Prop} (hgd : o.guard = none) (s x : Operand) (t : TypeId)
    (ho : o.op = .call { callee := .builtin .append, args := #[s, x], argTypes := #[t, t] }) (ht : P.underlying t = some (.slice 22)) (hinfo : (P.info? 22).map (fun i => (i.zero, i.size, i.bytes)) = some (some (.slice none 0 0), 1, 24))
    (base : Nat) (v : Value) (us : List Value) (ws : List (List Int)) (hs : a.eval s = v) (hown : WrdO base w v us ws) (b c : Nat) (hx : a.eval x = .slice (some ⟨b, 0, none⟩) 1 c) (hc : w.cell? ⟨b, 0, none⟩ = some (.slice none 0 0))
    (hl : us.length ≤ 1000000) (hbase : base ≤ w.heap.size)
    (h : ∀ g cap w', WrdO base w' (.slice (some ⟨g, 0, none⟩) (us.length + 1) cap) (us ++ [.slice none 0 0]) (ws ++ [[]]) → Below base w w' → wpList P ops Q rest (a.put o.dst (.slice (some ⟨g, 0, none⟩) (us.length + 1) cap)) w') : wpList P ops Q (o :: rest) a w := by
  obtain ⟨i, hi, hz0, hz1, hz2⟩ := info_parts hinfo
  have hrow := hown.1
  refine wpList_append_lies w hgd s x t ho base 22 i (.slice none 0 0) 1 24 ht hi hz0 hz1 hz2 rfl (by decide) v us.length us hs hrow ⟨b, 0, none⟩ 1 c [.slice none 0 0] hx rfl ?_ (by simp [Value.oneCell']) (by decide) (by unfold maxLen; omega) (by omega) hbase w.heap.size rfl ?_
  · intro j u hj
    match j, hj with
    | 0, hj => simp at hj; subst hj; simpa [Addr.add] using hc
    | j + 1, hj => simp at hj
  · intro g cap w' hown' hg _ _
    refine h g cap w' ⟨?_, ?_, ?_, ?_⟩ ((Below.refl base w).grown hg hbase (fun k hk => (World.ownsRow.lt hrow k hk).1))
    · rw [List.length_append]; exact hown'
    · simp [hown.2.1]
    · intro j hj
      rw [List.length_append, List.length_singleton] at hj
      by_cases hjl : j < us.length
      · rw [getD_left hjl, getD_left (by rw [← hown.2.1]; exact hjl)]
        exact hown.others hg (hown.2.2.1 j hjl)
      · obtain rfl : j = us.length := by omega
        rw [getD_last, hown.2.1, getD_last]
        exact Own.nil _ _ _ _
    · intro i j hij hj
      rw [List.length_append, List.length_singleton] at hj
      by_cases hjl : j < us.length
      · rw [getD_left hjl, getD_left (by omega)]
        exact hown.2.2.2 i j hij hjl
      · obtain rfl : j = us.length := by omega
        rw [getD_last]
        exact (Apt.nil _).turn
/-- the last row has grown, and is written over -/
theorem WrdO.grew {base : Nat} {w w' : World} {g n cap : Nat} {us : List Value} {ws : List (List Int)} {u u' : Value} {x x' : List Int} (h : WrdO base w (.slice (some ⟨g, 0, none⟩) n cap) (us ++ [u]) (ws ++ [x])) (hn : Own .i64 3 base w' u' x') (hg : w.grownBy w' u.ownBlock)
    (hk : ∀ z zs, Own .i64 3 base w z zs → Apt u z → Own .i64 3 base w' z zs ∧ Apt u' z) : WrdO base (w'.setCell ⟨g, us.length, none⟩ u') (.slice (some ⟨g, 0, none⟩) n cap) (us ++ [u']) (ws ++ [x']) := by
  have hlen : us.length = ws.length := by have := h.2.1; simpa using this
  have hu : Own .i64 3 base w u x := by
    have := h.2.2.1 us.length (by simp)
    rw [getD_last, hlen, getD_last] at this
    exact this
  have hrow := h.row hu hg
  have hset := row_set hrow (i := us.length) (by simp) u'
  have e : (us ++ [u]).set us.length u' = us ++ [u'] := by simp
  rw [e] at hset
  obtain ⟨cs, hbx⟩ : ∃ cs, Box 22 cs g w' := by
    rcases hrow.2 with ⟨h2, -⟩ | ⟨g', cap', cur, hv, -, hh, -⟩
    · cases h2
    · injection hv with hv _ _
      injection hv with hv
      injection hv with hv
      subst hv
      exact ⟨cur.toList, by unfold Box; rw [Array.toArray_toList]; exact hh⟩
  refine ⟨by simpa using hset, by simp [hlen], ?_, ?_⟩
  · intro j hj
    rw [List.length_append, List.length_singleton] at hj
    by_cases hjl : j < us.length
    · rw [getD_left hjl, getD_left (by omega)]
      have h1 := h.2.2.1 j (by simp; omega)
      rw [getD_left hjl, getD_left (by omega)] at h1
      have h2 := h.2.2.2 j us.length hjl (by simp)
      rw [getD_left hjl, getD_last] at h2
      exact (hk _ _ h1 h2.turn).1.set hbx (by decide) _ _
    · obtain rfl : j = us.length := by omega
      rw [getD_last, hlen, getD_last]
      rw [← hlen]
      exact hn.set hbx (by decide) _ _
  · intro i j hij hj
    rw [List.length_append, List.length_singleton] at hj
    by_cases hjl : j < us.length
    · rw [getD_left hjl, getD_left (by omega)]
      have h2 := h.2.2.2 i j hij (by simp; omega)
      rwa [getD_left hjl, getD_left (by omega)] at h2
    · obtain rfl : j = us.length := by omega
      rw [getD_left hij, getD_last]
      have h1 := h.2.2.1 i (by simp; omega)
      rw [getD_left hij] at h1
      have h2 := h.2.2.2 i us.length hij (by simp)
      rw [getD_left hij, getD_last] at h2
      exact (hk _ _ h1 h2.turn).2.turn
theorem WrdO.cellAt {base g n cap : Nat} {w : World} {us : List Value} {ws : List (List Int)} (h : WrdO base w (.slice (some ⟨g, 0, none⟩) n cap) us ws) {i : Nat} (hi : i < us.length) : w.cell? ⟨g, i, none⟩ = some (us.getD i undef) := by
  obtain ⟨g', cap', hv, -, -, hc, -⟩ := h.block (by omega)
  injection hv with hv _ _
  injection hv with hv
  injection hv with hv
  subst hv
  exact hc i hi
/-- rows stay while numbers elsewhere grow -/
theorem WrdO.beside {base : Nat} {w w' : World} {v : Value} {us : List Value} {ws : List (List Int)} (h : WrdO base w v us ws) {z z' : Value} {zs : List Int} (hz : Own .i64 3 base w z zs) (hap : ∀ i, i < us.length → Apt z (us.getD i undef)) (hg : w.grownBy w' z.ownBlock)
    (hk : ∀ y ys, Own .i64 3 base w y ys → Apt z y → Own .i64 3 base w' y ys ∧ Apt z' y) : WrdO base w' v us ws ∧ ∀ i, i < us.length → Apt z' (us.getD i undef) :=
  ⟨⟨h.row hz hg, h.2.1, fun i hi => (hk _ _ (h.2.2.1 i hi) (hap i hi)).1, h.2.2.2⟩, fun i hi => (hk _ _ (h.2.2.1 i hi) (hap i hi)).2⟩
end Go.Proofs.YtidjjaginindoaaGreat

/-! RefSets3 -/
namespace Go.Proofs.YtidjjaginindoaaGreat
open Go.RowKit

def castL (p : List Nat) : List Int := List.map (fun n : Nat => (n : Int)) p
theorem castL_len (p : List Nat) : (castL p).length = p.length := by simp [castL]
theorem castL_put (p : List Nat) (j k : Nat) : (castL p).take j ++ [(k : Int)] ++ (castL p).drop j = castL (p.take j ++ k :: p.drop j) := by simp [castL]
theorem castL_getD (p : List Nat) (i : Nat) : (castL p).getD i 0 = (p.getD i 0 : Nat) := by
  rw [List.getD_eq_getElem?_getD, List.getD_eq_getElem?_getD, castL, List.getElem?_map]
  cases p[i]? <;> rfl
theorem castL_inj : ∀ {p q : List Nat}, castL p = castL q → p = q
  | [], [], _ => rfl
  | [], _ :: _, h => by simp [castL] at h
  | _ :: _, [], h => by simp [castL] at h
  | a :: p, b :: q, h => by
    simp only [castL, List.map_cons, List.cons.injEq] at h
    rw [castL_inj (p := p) (q := q) h.2, Int.ofNat.inj h.1]

/-- the tail of a round: what was read is put in its place -/
theorem place_mem {l : List (List Int)} {n i : Nat} {p : List Nat} (h : IsPl l n p) (hi : i < p.length) : p.getD i 0 < n := by
  rw [List.getD_eq_getElem?_getD, List.getElem?_eq_getElem hi]
  exact h.lt (List.getElem_mem hi)

end Go.Proofs.YtidjjaginindoaaGreat

/-! StabMath -/
namespace Go.Proofs.YtidjjaginindoaaGreat

/-- what stands at i and at j, exchanged -/
def sw (p : List Nat) (i j : Nat) : List Nat := (p.set i (p.getD j 0)).set j (p.getD i 0)
theorem sw_len (p : List Nat) (i j : Nat) : (sw p i j).length = p.length := by simp [sw]
theorem set_mid (A B : List Nat) (x y : Nat) : (A ++ x :: B).set A.length y = A ++ y :: B := by simp
theorem getD_mid (A B : List Nat) (x : Nat) : (A ++ x :: B).getD A.length 0 = x := by simp [List.getD_eq_getElem?_getD]
theorem sw_lists (A B C : List Nat) (x y : Nat) : sw (A ++ x :: (B ++ y :: C)) A.length (A.length + 1 + B.length) = A ++ y :: (B ++ x :: C) := by
  have e : A ++ x :: (B ++ y :: C) = (A ++ x :: B) ++ y :: C := by simp
  have hl : A.length + 1 + B.length = (A ++ x :: B).length := by simp; omega
  have g1 : (A ++ x :: (B ++ y :: C)).getD (A.length + 1 + B.length) 0 = y := by rw [e, hl, getD_mid]
  have g2 : (A ++ x :: (B ++ y :: C)).getD A.length 0 = x := getD_mid A _ x
  unfold sw
  rw [g1, g2, set_mid]
  have e' : A ++ y :: (B ++ y :: C) = (A ++ y :: B) ++ y :: C := by simp
  have hl' : A.length + 1 + B.length = (A ++ y :: B).length := by simp; omega
  rw [e', hl', set_mid]
  simp
theorem sw_next (A C : List Nat) (x y : Nat) : sw (A ++ x :: y :: C) A.length (A.length + 1) = A ++ y :: x :: C := sw_lists A [] C x y
theorem sw_turn (p : List Nat) {i j : Nat} (h : i ≠ j) : sw p i j = sw p j i := by
  unfold sw
  exact (List.set_comm _ _ h)
theorem sw_prev (A C : List Nat) (x y : Nat) : sw (A ++ x :: y :: C) (A.length + 1) A.length = A ++ y :: x :: C := by
  rw [sw_turn _ (by omega), sw_next]

/-- the first k of two runs, exchanged one by one -/
def swR (p : List Nat) (a b : Nat) : Nat → List Nat
  | 0 => p
  | k + 1 => sw (swR p a b k) (a + k) (b + k)
theorem swR_len (p : List Nat) (a b : Nat) : ∀ k, (swR p a b k).length = p.length
  | 0 => rfl
  | k + 1 => by rw [swR, sw_len, swR_len p a b k]
theorem snoc_of {U : List Nat} {k : Nat} (h : U.length = k + 1) : ∃ U1 u, U = U1 ++ [u] := by
  have hn : U ≠ [] := by rintro rfl; simp at h
  exact ⟨U.dropLast, U.getLast hn, (List.dropLast_concat_getLast hn).symm⟩
theorem swR_lists (A B C : List Nat) : ∀ (k : Nat) (U V : List Nat), U.length = k → V.length = k → ∀ (U' V' : List Nat), U'.length = V'.length →
    swR (A ++ (U ++ U') ++ B ++ (V ++ V') ++ C) A.length (A.length + (U.length + U'.length) + B.length) k = A ++ (V ++ U') ++ B ++ (U ++ V') ++ C
  | 0, U, V, hU, hV, U', V', _ => by
    obtain rfl := List.eq_nil_of_length_eq_zero hU
    obtain rfl := List.eq_nil_of_length_eq_zero hV
    rfl
  | k + 1, U, V, hU, hV, U', V', h' => by
    obtain ⟨U1, u, rfl⟩ := snoc_of hU
    obtain ⟨V1, v, rfl⟩ := snoc_of hV
    simp only [List.length_append, List.length_cons, List.length_nil] at hU hV
    have ih := swR_lists A B C k U1 V1 (by omega) (by omega) (u :: U') (v :: V') (by simp [h'])
    have e0 : A ++ (U1 ++ [u] ++ U') ++ B ++ (V1 ++ [v] ++ V') ++ C = A ++ (U1 ++ u :: U') ++ B ++ (V1 ++ v :: V') ++ C := by simp
    have l0 : A.length + ((U1 ++ [u]).length + U'.length) + B.length = A.length + (U1.length + (u :: U').length) + B.length := by simp; omega
    rw [swR, e0, l0, ih]
    have e1 : A ++ (V1 ++ u :: U') ++ B ++ (U1 ++ v :: V') ++ C = (A ++ V1) ++ u :: ((U' ++ B ++ U1) ++ v :: (V' ++ C)) := by simp
    have l1 : A.length + k = (A ++ V1).length := by simp; omega
    have l2 : A.length + (U1.length + (u :: U').length) + B.length + k = (A ++ V1).length + 1 + (U' ++ B ++ U1).length := by simp; omega
    rw [e1, l1, l2, sw_lists]
    simp
theorem swR_runs (A U B V C : List Nat) (h : U.length = V.length) : swR (A ++ U ++ B ++ V ++ C) A.length (A.length + U.length + B.length) U.length = A ++ V ++ B ++ U ++ C := by
  have := swR_lists A B C U.length U V rfl h.symm [] [] rfl
  simpa using this

/-! ### places in joined lists -/
theorem at_left {A L T : List Nat} {i : Nat} (h0 : A.length ≤ i) (h1 : i < A.length + L.length) : (A ++ L ++ T).getD i 0 = L.getD (i - A.length) 0 := by
  simp only [List.getD_eq_getElem?_getD]
  rw [List.getElem?_append_left (by simp; omega), List.getElem?_append_right h0]
theorem at_right {A L R C : List Nat} {i : Nat} (h0 : A.length + L.length ≤ i) (h1 : i < A.length + L.length + R.length) : (A ++ L ++ R ++ C).getD i 0 = R.getD (i - (A.length + L.length)) 0 := by
  have := @at_left (A ++ L) R C i (by simp; omega) (by simp; omega)
  simpa using this
theorem getD_memN {L : List Nat} {i : Nat} (h : i < L.length) : L.getD i 0 ∈ L := by
  rw [List.getD_eq_getElem?_getD, List.getElem?_eq_getElem h]
  exact List.getElem_mem h
theorem mem_getD {L : List Nat} {x : Nat} (h : x ∈ L) : ∃ i, i < L.length ∧ L.getD i 0 = x := by
  obtain ⟨i, hi, rfl⟩ := List.getElem_of_mem h
  exact ⟨i, hi, by rw [List.getD_eq_getElem?_getD, List.getElem?_eq_getElem hi]; rfl⟩
theorem mem_take_getD {L : List Nat} {x t : Nat} (h : x ∈ L.take t) : ∃ i, i < t ∧ i < L.length ∧ L.getD i 0 = x := by
  obtain ⟨i, hi, rfl⟩ := List.getElem_of_mem h
  rw [List.length_take] at hi
  exact ⟨i, by omega, by omega, by rw [List.getD_eq_getElem?_getD, List.getElem?_eq_getElem (by omega)]; simp⟩
theorem mem_drop_getD {L : List Nat} {x t : Nat} (h : x ∈ L.drop t) : ∃ i, t ≤ i ∧ i < L.length ∧ L.getD i 0 = x := by
  obtain ⟨i, hi, rfl⟩ := List.getElem_of_mem h
  rw [List.length_drop] at hi
  exact ⟨t + i, by omega, by omega, by rw [List.getD_eq_getElem?_getD, List.getElem?_eq_getElem (by omega)]; simp⟩

/-! ### in order -/
/-- a is not behind b -/
def ile (l : List (List Int)) (i j : Nat) : Prop := i = j ∨ ilt l i j
theorem ilt_trans {l : List (List Int)} {i j k : Nat} (h1 : ilt l i j) (h2 : ilt l j k) : ilt l i k := by
  have t := cmpS_trans (rowAt l i) (rowAt l j) (rowAt l k)
  unfold ilt at h1 h2 ⊢
  have t1 := t (by omega) (by omega)
  omega
theorem ile_trans {l : List (List Int)} {i j k : Nat} (h1 : ile l i j) (h2 : ilt l j k) : ilt l i k := by
  rcases h1 with rfl | h1
  · exact h2
  · exact ilt_trans h1 h2
theorem ile_trans' {l : List (List Int)} {i j k : Nat} (h1 : ilt l i j) (h2 : ile l j k) : ilt l i k := by
  rcases h2 with rfl | h2
  · exact h1
  · exact ilt_trans h1 h2
theorem pw_le {l : List (List Int)} {L : List Nat} (h : L.Pairwise (ilt l)) {i j : Nat} (hij : i ≤ j) (hj : j < L.length) : ile l (L.getD i 0) (L.getD j 0) := by
  rcases Nat.lt_or_ge i j with h1 | h1
  · right
    have := List.pairwise_iff_getElem.1 h i j (by omega) hj h1
    rw [List.getD_eq_getElem?_getD, List.getD_eq_getElem?_getD, List.getElem?_eq_getElem (by omega), List.getElem?_eq_getElem hj]
    exact this
  · obtain rfl : i = j := by omega
    exact .inl rfl
/-- y is compared with x, and y's number is the greater: only ahead where its row is -/
theorem cmp_lt {l : List (List Int)} {x y : Nat} (h : x < y) : cmpS (rowAt l y) (rowAt l x) < 0 ↔ ilt l y x := by
  unfold ilt
  omega
theorem cmp_ge {l : List (List Int)} {x y : Nat} (h : x < y) : ¬ cmpS (rowAt l y) (rowAt l x) < 0 ↔ ilt l x y := by
  have := cmpS_turn (rowAt l x) (rowAt l y)
  unfold ilt
  omega

/-- one put among others that are in order -/
theorem pw_put {l : List (List Int)} {R : List Nat} {x t : Nat} (h : R.Pairwise (ilt l)) (ht : t ≤ R.length) (h1 : t = 0 ∨ ilt l (R.getD (t - 1) 0) x) (h2 : t = R.length ∨ ilt l x (R.getD t 0)) :
    (R.take t ++ x :: R.drop t).Pairwise (ilt l) := by
  rw [List.pairwise_append, List.pairwise_cons]
  have hb : ∀ a ∈ R.take t, ilt l a x := fun a ha => by
    obtain ⟨i, hi, hi2, rfl⟩ := mem_take_getD ha
    exact ile_trans (pw_le h (show i ≤ t - 1 by omega) (by omega)) (by rcases h1 with h1 | h1; omega; exact h1)
  have ha : ∀ a ∈ R.drop t, ilt l x a := fun a ha => by
    obtain ⟨i, hi, hi2, rfl⟩ := mem_drop_getD ha
    exact ile_trans' (by rcases h2 with h2 | h2; omega; exact h2) (pw_le h hi hi2)
  refine ⟨h.sublist (List.take_sublist ..), ⟨ha, h.sublist (List.drop_sublist ..)⟩, fun a h3 b h4 => ?_⟩
  rcases List.mem_cons.1 h4 with rfl | h4
  · exact hb a h3
  · exact ilt_trans (hb a h3) (ha b h4)
theorem put_perm (R : List Nat) (x t : Nat) : (R.take t ++ x :: R.drop t).Perm (x :: R) := by
  refine List.perm_middle.trans ?_
  rw [List.take_append_drop]

/-- the four parts of a cut merge -/
theorem pw_join {l : List (List Int)} {M1 M2 L1 L2 R1 R2 : List Nat} (h1 : M1.Perm (L1 ++ R1)) (h2 : M2.Perm (L2 ++ R2)) (p1 : M1.Pairwise (ilt l)) (p2 : M2.Pairwise (ilt l))
    (a : ∀ x ∈ L1, ∀ y ∈ L2, ilt l x y) (b : ∀ x ∈ L1, ∀ y ∈ R2, ilt l x y) (c : ∀ x ∈ R1, ∀ y ∈ L2, ilt l x y) (d : ∀ x ∈ R1, ∀ y ∈ R2, ilt l x y) : (M1 ++ M2).Pairwise (ilt l) := by
  rw [List.pairwise_append]
  refine ⟨p1, p2, fun x hx y hy => ?_⟩
  rcases List.mem_append.1 (h1.mem_iff.1 hx) with hx | hx <;> rcases List.mem_append.1 (h2.mem_iff.1 hy) with hy | hy
  · exact a x hx y hy
  · exact b x hx y hy
  · exact c x hx y hy
  · exact d x hx y hy
theorem perm_join {M1 M2 L1 L2 R1 R2 : List Nat} (h1 : M1.Perm (L1 ++ R1)) (h2 : M2.Perm (L2 ++ R2)) : (M1 ++ M2).Perm (L1 ++ L2 ++ (R1 ++ R2)) := by
  refine (h1.append h2).trans ?_
  rw [List.append_assoc, List.append_assoc]
  refine List.Perm.append_left L1 ?_
  rw [← List.append_assoc, ← List.append_assoc]
  exact List.Perm.append_right R2 List.perm_append_comm
theorem cut_rel {R : Nat → Nat → Prop} {L : List Nat} (h : L.Pairwise R) (t : Nat) : ∀ x ∈ L.take t, ∀ y ∈ L.drop t, R x y := by
  rw [← List.take_append_drop t L, List.pairwise_append] at h
  exact h.2.2
end Go.Proofs.YtidjjaginindoaaGreat

/-! Stab1 -/
namespace Go.Proofs.YtidjjaginindoaaGreat
open Go.RowKit

def cv (p : List Nat) : List Value := (castL p).map (Value.int .i64)
theorem cv_len (p : List Nat) : (cv p).length = p.length := by simp [cv, castL]
theorem cv_at {p : List Nat} {i : Nat} (h : i < p.length) : (cv p)[i]? = some (.int .i64 (p.getD i 0 : Nat)) := by
  simp [cv, castL, List.getD_eq_getElem?_getD, List.getElem?_eq_getElem h]
theorem cv_sw (p : List Nat) (i j : Nat) : ((cv p).set i (.int .i64 (p.getD j 0 : Nat))).set j (.int .i64 (p.getD i 0 : Nat)) = cv (sw p i j) := by
  simp [cv, castL, sw, List.map_set]

/-- a row of numbers in block g; all else is as it was in w -/
def Rown (g : Nat) (w : World) (p : List Nat) (wr : World) : Prop := Box 3 (cv p) g wr ∧ w.grownBy wr (some g)
theorem Rown.drewN {g : Nat} {w wr : World} {p : List Nat} (h : Rown g w p wr) (n : Nat) : Rown g w p (wr.drewN n) :=
  ⟨h.1, ⟨h.2.os, h.2.tape, h.2.output, h.2.size, h.2.block⟩⟩
theorem Rown.trans {g : Nat} {w w1 w2 : World} {p q : List Nat} (h : Rown g w p w1) (k : Rown g w1 q w2) : Rown g w q w2 :=
  ⟨k.1, ⟨k.2.os.trans h.2.os, k.2.tape.trans h.2.tape, k.2.output.trans h.2.output, Nat.le_trans h.2.size k.2.size, fun i hi hn => (k.2.block i (Nat.lt_of_lt_of_le hi h.2.size) hn).trans (h.2.block i hi hn)⟩⟩
theorem Rown.refl {g : Nat} {w : World} {p : List Nat} (h : Box 3 (cv p) g w) : Rown g w p w := ⟨h, rfl, rfl, rfl, Nat.le_refl _, fun _ _ _ => rfl⟩
theorem Rown.swap {g : Nat} {w wr : World} {p : List Nat} (h : Rown g w p wr) (i j : Nat) {x y : Int} (hx : x = (p.getD i 0 : Nat)) (hy : y = (p.getD j 0 : Nat)) :
    Rown g w (sw p i j) ((wr.setCell ⟨g, i, none⟩ (.int .i64 y)).setCell ⟨g, j, none⟩ (.int .i64 x)) := by
  subst hx hy
  refine ⟨?_, grow_set1 (grow_set1 h.2 i _) j _⟩
  rw [← cv_sw]
  exact (h.1.set i _).set j _
theorem Rown.at {g : Nat} {w wr : World} {p : List Nat} (h : Rown g w p wr) {i : Nat} (hi : i < p.length) : wr.cell? ⟨g, i, none⟩ = some (.int .i64 (p.getD i 0 : Nat)) := by
  rw [h.1.cell i, cv_at hi]
theorem Rown.ice {g : Nat} {w wr : World} {p : List Nat} (h : Rown g w p wr) (i : Nat) : wr.frozen? ⟨g, i, none⟩ = false := h.1.ice i

end Go.Proofs.YtidjjaginindoaaGreat

/-! Stab2 -/
namespace Go.Proofs.YtidjjaginindoaaGreat
open Go.RowKit

end Go.Proofs.YtidjjaginindoaaGreat

/-! Stab3 -/
namespace Go.Proofs.YtidjjaginindoaaGreat
open Go.RowKit

/-- x moved over the first c of R -/
def shL (A R C : List Nat) (x c : Nat) : List Nat := A ++ R.take c ++ x :: (R.drop c ++ C)
theorem shL_zero (A R C : List Nat) (x : Nat) : shL A R C x 0 = A ++ [x] ++ R ++ C := by simp [shL]
theorem shL_len (A R C : List Nat) (x c : Nat) : (shL A R C x c).length = A.length + 1 + R.length + C.length := by simp [shL]; omega
theorem shL_step {A R C : List Nat} {x c : Nat} (h : c < R.length) : sw (shL A R C x c) (A.length + c) (A.length + c + 1) = shL A R C x (c + 1) := by
  have e : R.drop c = R.getD c 0 :: R.drop (c + 1) := by
    rw [List.drop_eq_getElem_cons h, List.getD_eq_getElem?_getD, List.getElem?_eq_getElem h]; rfl
  have e2 : R.take (c + 1) = R.take c ++ [R.getD c 0] := by
    rw [List.take_add_one, List.getD_eq_getElem?_getD, List.getElem?_eq_getElem h]; rfl
  have hl : A.length + c = (A ++ R.take c).length := by rw [List.length_append, List.length_take]; omega
  unfold shL
  rw [e, e2, hl, List.cons_append, sw_next]
  simp
theorem shL_end (A R C : List Nat) (x c : Nat) : shL A R C x c = A ++ (R.take c ++ x :: R.drop c) ++ C := by simp [shL]

end Go.Proofs.YtidjjaginindoaaGreat

/-! Stab4 -/
namespace Go.Proofs.YtidjjaginindoaaGreat
open Go.RowKit

theorem shL_full (A L C : List Nat) (y : Nat) : shL A L C y L.length = A ++ L ++ [y] ++ C := by simp [shL]
theorem shL_back {A L C : List Nat} {y c : Nat} (h : c < L.length) : sw (shL A L C y (c + 1)) (A.length + c + 1) (A.length + c) = shL A L C y c := by
  have e : L.drop c = L.getD c 0 :: L.drop (c + 1) := by
    rw [List.drop_eq_getElem_cons h, List.getD_eq_getElem?_getD, List.getElem?_eq_getElem h]; rfl
  have e2 : L.take (c + 1) = L.take c ++ [L.getD c 0] := by
    rw [List.take_add_one, List.getD_eq_getElem?_getD, List.getElem?_eq_getElem h]; rfl
  have hl : A.length + c = (A ++ L.take c).length := by rw [List.length_append, List.length_take]; omega
  unfold shL
  rw [e, e2, hl, show A ++ (L.take c ++ [L.getD c 0]) ++ y :: (L.drop (c + 1) ++ C) = (A ++ L.take c) ++ L.getD c 0 :: y :: (L.drop (c + 1) ++ C) by simp, sw_prev]
  simp

end Go.Proofs.YtidjjaginindoaaGreat

/-! Stab5 -/
namespace Go.Proofs.YtidjjaginindoaaGreat

theorem sym_parts {l : List (List Int)} {L R : List Nat} {a m b mid nn s s0 r0 : Nat} (hm : m = a + L.length) (hb : b = m + R.length) (hmid : mid = (a + b) / 2) (hnn : nn = mid + m)
    (hlo : (mid < m ∧ s0 + b = nn ∧ r0 = mid) ∨ (m ≤ mid ∧ s0 = a ∧ r0 = m)) (h0 : s0 ≤ s) (h1 : s ≤ r0) (hL : L.Pairwise (ilt l)) (hR : R.Pairwise (ilt l))
    (hs : s = s0 ∨ ilt l (L.getD (s - 1 - a) 0) (R.getD (nn - 1 - (s - 1) - m) 0)) (hr : s = r0 ∨ ilt l (R.getD (nn - 1 - s - m) 0) (L.getD (s - a) 0)) :
    a ≤ s ∧ s ≤ m ∧ m ≤ nn - s ∧ nn - s ≤ b ∧ (∀ x ∈ L.take (s - a), ∀ y ∈ R.drop (nn - s - m), ilt l x y) ∧ (∀ x ∈ R.take (nn - s - m), ∀ y ∈ L.drop (s - a), ilt l x y) := by
  refine ⟨by omega, by omega, by omega, by omega, fun x hx y hy => ?_, fun x hx y hy => ?_⟩
  · obtain ⟨i, hi1, hi2, rfl⟩ := mem_take_getD hx
    obtain ⟨j, hj1, hj2, rfl⟩ := mem_drop_getD hy
    rcases hs with hs | hs
    · omega
    · exact ile_trans (pw_le hL (show i ≤ s - 1 - a by omega) (by omega)) (ile_trans' hs (pw_le hR (show nn - 1 - (s - 1) - m ≤ j by omega) hj2))
  · obtain ⟨i, hi1, hi2, rfl⟩ := mem_take_getD hx
    obtain ⟨j, hj1, hj2, rfl⟩ := mem_drop_getD hy
    rcases hr with hr | hr
    · omega
    · exact ile_trans (pw_le hR (show i ≤ nn - 1 - s - m by omega) (by omega)) (ile_trans' hr (pw_le hL (show s - a ≤ j by omega) hj2))
end Go.Proofs.YtidjjaginindoaaGreat

/-! Stab6 -/
namespace Go.Proofs.YtidjjaginindoaaGreat
open Go.RowKit

theorem pw_noleft {l : List (List Int)} {L R : List Nat} (h : L.length = 0) (k : R.Pairwise (ilt l)) : (L ++ R).Pairwise (ilt l) := by
  rw [List.eq_nil_of_length_eq_zero h]; exact k
theorem pw_noright {l : List (List Int)} {L R : List Nat} (h : R.length = 0) (k : L.Pairwise (ilt l)) : (L ++ R).Pairwise (ilt l) := by
  rw [List.eq_nil_of_length_eq_zero h, List.append_nil]; exact k
theorem nil_rot {X Y : List Nat} (h : X.length = 0 ∨ Y.length = 0) (A T : List Nat) : A ++ X ++ Y ++ T = A ++ Y ++ X ++ T := by
  rcases h with h | h <;> rw [List.eq_nil_of_length_eq_zero h] <;> simp

end Go.Proofs.YtidjjaginindoaaGreat

/-! Stab7 -/
namespace Go.Proofs.YtidjjaginindoaaGreat
open Go.RowKit

theorem shL_x {A S T : List Nat} {x c j : Nat} (h : c ≤ S.length) (hj : j = A.length + c) : (shL A S T x c).getD j 0 = x := by
  unfold shL
  rw [hj, show A.length + c = (A ++ S.take c).length by rw [List.length_append, List.length_take]; omega, getD_mid]
theorem shL_y {A S T : List Nat} {x c j : Nat} (h : c < S.length) (hj : j = A.length + c) : (shL A S T x (c + 1)).getD j 0 = S.getD c 0 := by
  have e2 : S.take (c + 1) = S.take c ++ [S.getD c 0] := by
    rw [List.take_add_one, List.getD_eq_getElem?_getD, List.getElem?_eq_getElem h]; rfl
  unfold shL
  rw [e2, hj, show A ++ (S.take c ++ [S.getD c 0]) ++ x :: (S.drop (c + 1) ++ T) = (A ++ S.take c) ++ S.getD c 0 :: (x :: (S.drop (c + 1) ++ T)) by simp,
    show A.length + c = (A ++ S.take c).length by rw [List.length_append, List.length_take]; omega, getD_mid]

end Go.Proofs.YtidjjaginindoaaGreat

/-! Stab8 -/
namespace Go.Proofs.YtidjjaginindoaaGreat
open Go.RowKit

/-- runs of bs numbers each, but for the last, each in order -/
inductive Blks (l : List (List Int)) (bs : Nat) : Nat → List Nat → Prop
  | last (s : Nat) (M : List Nat) (h : M.length ≤ bs) (hp : M.Perm (List.range' s M.length)) (hs : M.Pairwise (ilt l)) : Blks l bs s M
  | more (s : Nat) (M q : List Nat) (h : M.length = bs) (hp : M.Perm (List.range' s M.length)) (hs : M.Pairwise (ilt l)) (hq : Blks l bs (s + bs) q) : Blks l bs s (M ++ q)
def Pre (l : List (List Int)) (bs a : Nat) (A : List Nat) : Prop := ∀ q, Blks l bs a q → Blks l bs 0 (A ++ q)
theorem Pre.nil (l : List (List Int)) (bs : Nat) : Pre l bs 0 [] := fun _ h => h
theorem Pre.next {l : List (List Int)} {bs a : Nat} {A M : List Nat} (h : Pre l bs a A) (hl : M.length = bs) (hp : M.Perm (List.range' a M.length)) (hs : M.Pairwise (ilt l)) : Pre l bs (a + bs) (A ++ M) := fun q hq => by
  rw [List.append_assoc]
  exact h _ (.more a M q hl hp hs hq)
theorem Blks.nil (l : List (List Int)) (bs a : Nat) : Blks l bs a [] := .last a [] (by simp) (List.Perm.refl _) List.Pairwise.nil
/-- the first run, and what stands behind it -/
theorem Blks.cut {l : List (List Int)} {bs s : Nat} {q : List Nat} (h : Blks l bs s q) (hb : bs ≤ q.length) : ∃ M q', q = M ++ q' ∧ M.length = bs ∧ M.Perm (List.range' s M.length) ∧ M.Pairwise (ilt l) ∧ Blks l bs (s + bs) q' := by
  cases h with
  | last _ _ h hp hs => exact ⟨q, [], by simp, by omega, hp, hs, Blks.nil _ _ _⟩
  | more _ M q h hp hs hq => exact ⟨M, q, rfl, h, hp, hs, hq⟩
/-- no more than one run -/
theorem Blks.one {l : List (List Int)} {bs s : Nat} {q : List Nat} (h : Blks l bs s q) (hb : q.length ≤ bs) : q.Perm (List.range' s q.length) ∧ q.Pairwise (ilt l) := by
  cases h with
  | last _ _ h hp hs => exact ⟨hp, hs⟩
  | more _ M q h hp hs hq =>
    have hq0 : q = [] := List.eq_nil_of_length_eq_zero (by simp at hb; omega)
    subst hq0
    rw [List.append_nil]
    exact ⟨hp, hs⟩
theorem perm_lt {M : List Nat} {s k x : Nat} (h : M.Perm (List.range' s k)) (hx : x ∈ M) : s ≤ x ∧ x < s + k := by
  have := h.mem_iff.1 hx
  rwa [List.mem_range'_1] at this
theorem perm_two {M M1 M2 : List Nat} {s : Nat} (h : M.Perm (M1 ++ M2)) (h1 : M1.Perm (List.range' s M1.length)) (h2 : M2.Perm (List.range' (s + M1.length) M2.length)) : M.Perm (List.range' s M.length) := by
  have e : List.range' s M.length = List.range' s M1.length ++ List.range' (s + M1.length) M2.length := by
    rw [h.length_eq, List.length_append, List.range'_append_1]
  rw [e]
  exact h.trans (h1.append h2)

theorem perm_seg {M : List Nat} {s k : Nat} (h : M.Perm (List.range' s k)) : M.length = k ∧ M.Perm (List.range' s M.length) := by
  have e := h.length_eq
  rw [List.length_range'] at e
  exact ⟨e, by rw [e]; exact h⟩

end Go.Proofs.YtidjjaginindoaaGreat

/-! Four -/
namespace Go.Proofs.YtidjjaginindoaaGreat
open Go.RowKit

def Four (base : Nat) (w : World) (va vb vc vd : Value) (A B C D : List Int) : Prop :=
  (Own .i64 3 base w va A ∧ Own .i64 3 base w vb B ∧ Own .i64 3 base w vc C ∧ Own .i64 3 base w vd D) ∧ Apt va vb ∧ Apt va vc ∧ Apt va vd ∧ Apt vb vc ∧ Apt vb vd ∧ Apt vc vd
variable {base : Nat} {w w' : World} {va vb vc vd v : Value} {A B C D X : List Int}
theorem Four.below (h : Four base w va vb vc vd A B C D) (hb : Below w.heap.size w w') : Four base w' va vb vc vd A B C D :=
  ⟨⟨h.1.1.below hb, h.1.2.1.below hb, h.1.2.2.1.below hb, h.1.2.2.2.below hb⟩, h.2⟩
theorem Four.alloc (h : Four base w va vb vc vd A B C D) (o : Obj) : Four base (w.alloc o) va vb vc vd A B C D :=
  ⟨⟨h.1.1.alloc o, h.1.2.1.alloc o, h.1.2.2.1.alloc o, h.1.2.2.2.alloc o⟩, h.2⟩
theorem Four.nil (base : Nat) (w : World) : Four base w (.slice none 0 0) (.slice none 0 0) (.slice none 0 0) (.slice none 0 0) [] [] [] [] :=
  ⟨⟨Own.nil _ _ _ _, Own.nil _ _ _ _, Own.nil _ _ _ _, Own.nil _ _ _ _⟩, Apt.nil _, Apt.nil _, Apt.nil _, Apt.nil _, Apt.nil _, Apt.nil _⟩
/-- behind an append to the first, the second .. -/
theorem Four.putA (h : Four base w va vb vc vd A B C D) (ho : Own .i64 3 base w' v X) (hx : ∀ z zs, Own .i64 3 base w z zs → Apt va z → Own .i64 3 base w' z zs ∧ Apt v z) : Four base w' v vb vc vd X B C D := by
  obtain ⟨⟨h1, h2, h3, h4⟩, ab, ac, ad, bc, bd, cd⟩ := h
  obtain ⟨b1, b2⟩ := hx _ _ h2 ab
  obtain ⟨c1, c2⟩ := hx _ _ h3 ac
  obtain ⟨d1, d2⟩ := hx _ _ h4 ad
  exact ⟨⟨ho, b1, c1, d1⟩, b2, c2, d2, bc, bd, cd⟩
theorem Four.putB (h : Four base w va vb vc vd A B C D) (ho : Own .i64 3 base w' v X) (hx : ∀ z zs, Own .i64 3 base w z zs → Apt vb z → Own .i64 3 base w' z zs ∧ Apt v z) : Four base w' va v vc vd A X C D := by
  obtain ⟨⟨h1, h2, h3, h4⟩, ab, ac, ad, bc, bd, cd⟩ := h
  obtain ⟨b1, b2⟩ := hx _ _ h1 ab.turn
  obtain ⟨c1, c2⟩ := hx _ _ h3 bc
  obtain ⟨d1, d2⟩ := hx _ _ h4 bd
  exact ⟨⟨b1, ho, c1, d1⟩, b2.turn, ac, ad, c2, d2, cd⟩
theorem Four.putC (h : Four base w va vb vc vd A B C D) (ho : Own .i64 3 base w' v X) (hx : ∀ z zs, Own .i64 3 base w z zs → Apt vc z → Own .i64 3 base w' z zs ∧ Apt v z) : Four base w' va vb v vd A B X D := by
  obtain ⟨⟨h1, h2, h3, h4⟩, ab, ac, ad, bc, bd, cd⟩ := h
  obtain ⟨b1, b2⟩ := hx _ _ h1 ac.turn
  obtain ⟨c1, c2⟩ := hx _ _ h2 bc.turn
  obtain ⟨d1, d2⟩ := hx _ _ h4 cd
  exact ⟨⟨b1, c1, ho, d1⟩, ab, b2.turn, ad, c2.turn, bd, d2⟩
theorem Four.putD (h : Four base w va vb vc vd A B C D) (ho : Own .i64 3 base w' v X) (hx : ∀ z zs, Own .i64 3 base w z zs → Apt vd z → Own .i64 3 base w' z zs ∧ Apt v z) : Four base w' va vb vc v A B C X := by
  obtain ⟨⟨h1, h2, h3, h4⟩, ab, ac, ad, bc, bd, cd⟩ := h
  obtain ⟨b1, b2⟩ := hx _ _ h1 ad.turn
  obtain ⟨c1, c2⟩ := hx _ _ h2 bd.turn
  obtain ⟨d1, d2⟩ := hx _ _ h3 cd.turn
  exact ⟨⟨b1, c1, d1, ho⟩, ab, ac, b2.turn, bc, c2.turn, d2.turn⟩
end Go.Proofs.YtidjjaginindoaaGreat
