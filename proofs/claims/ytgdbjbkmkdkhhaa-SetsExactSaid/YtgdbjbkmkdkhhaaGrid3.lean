/- Slices of slices of bytes, more: rows in pairwise different blocks; cuts; append of many rows. -/
import Derived.Test.YtgdbjbkmkdkhhaaGrid2
namespace Go.Proofs.Ytgdbjbkmkdkhhaa
open Go.RowKit

/-- no two rows of the call's own share a block -/
def Diff (vs : List Value) : Prop := ∀ i j, i < j → j < vs.length → ∀ g, (vs.getD i undef).ownBlock = some g → (vs.getD j undef).ownBlock ≠ some g

/-- .. that the call itself made, each row too, and no two rows share a block -/
def OwnRowsD (te tb base : Nat) (w : World) (v : Value) (xss : List (List Int)) : Prop :=
  ∃ vs, vs.length = xss.length ∧ w.ownsRow base te 1 v vs.length vs ∧ (∀ i, i < xss.length → Own .u8 tb base w (vs.getD i undef) (xss.getD i [])) ∧ Diff vs

theorem OwnRowsD.own {te tb base : Nat} {w : World} {v : Value} {xss : List (List Int)} (h : OwnRowsD te tb base w v xss) : OwnRows te tb base w v xss := by
  obtain ⟨vs, h1, h2, h3, -⟩ := h
  exact ⟨vs, h1, h2, h3⟩
theorem OwnRowsD.below {te tb base : Nat} {w w' : World} {v : Value} {xss : List (List Int)} (h : OwnRowsD te tb base w v xss) (hb : Below w.heap.size w w') : OwnRowsD te tb base w' v xss := by
  obtain ⟨vs, h1, h2, h3, h4⟩ := h
  exact ⟨vs, h1, ownsRow_below h2 hb, fun i hi => (h3 i hi).below hb, h4⟩
theorem OwnRowsD.mono {te tb base base' : Nat} {w : World} {v : Value} {xss : List (List Int)} (h : OwnRowsD te tb base w v xss) (hb : base' ≤ base) : OwnRowsD te tb base' w v xss := by
  obtain ⟨vs, h1, h2, h3, h4⟩ := h
  exact ⟨vs, h1, ownsRow_mono h2 hb, fun i hi => (h3 i hi).mono hb, h4⟩
theorem OwnRowsD.nil (te tb base : Nat) (w : World) : OwnRowsD te tb base w (.slice none 0 0) [] := ⟨[], rfl, World.ownsRow_nil _ _ _ _, fun i hi => by simp at hi, fun i j _ hj => by simp at hj⟩

/-- append(dst, u): u a slice of bytes that the call made after all the rows before it -/
theorem wpList_appRowE {P : Program} (w : World) {ops : Array Oper} {rest : List Oper} {o : Oper} {a : Act} {Q : Exit → Act → World → Prop} (hgd : o.guard = none) (s x : Operand) (t : TypeId)
    (ho : o.op = .call { callee := .builtin .append, args := #[s, x], argTypes := #[t, t] })
    (base te tb : Nat) (hne : tb ≠ te) (bytes : Nat) (ht : P.underlying t = some (.slice te)) (hinfo : (P.info? te).map (fun i => (i.zero, i.size, i.bytes)) = some (some (.slice none 0 0), 1, bytes))
    (w0 : World) (hw0 : Below w0.heap.size w0 w) (v : Value) (xss : List (List Int)) (hs : a.eval s = v) (hown : OwnRowsD te tb base w0 v xss) (g : Nat) (u : Value) (ys : List Int) (hx : a.eval x = .slice (some ⟨g, 0, none⟩) 1 1) (hc : w.cell? ⟨g, 0, none⟩ = some u) (hu : Own .u8 tb w0.heap.size w u ys)
    (h63 : xss.length + 1 ≤ maxLen) (hbytes : (xss.length + 1) * bytes ≤ 140737488355328) (hbase : base ≤ w0.heap.size)
    (h : ∀ v' w', OwnRowsD te tb base w' v' (xss ++ [ys]) → Below base w w' → (∀ (k : IntKind) (e : Nat) (z : Value) (zs : List Int), e ≠ te → Own k e base w z zs → Own k e base w' z zs) → wpList P ops Q rest (a.put o.dst v') w') : wpList P ops Q (o :: rest) a w := by
  obtain ⟨i, hi, hz0, hz1, hz2⟩ := info_parts hinfo
  have hbase' : base ≤ w.heap.size := Nat.le_trans hbase hw0.size
  obtain ⟨vs, h1, h2, h3, h4⟩ := hown
  have hold : ∀ j, j < vs.length → ∀ b, (vs.getD j undef).ownBlock = some b → b < w0.heap.size := fun j hj b hb => (h3 j (by omega)).lt' b hb
  have h2 := ownsRow_below h2 hw0
  have h3 : ∀ i, i < xss.length → Own .u8 tb base w (vs.getD i undef) (xss.getD i []) := fun i hi => (h3 i hi).below hw0
  have hnew : ∀ b, u.ownBlock = some b → w0.heap.size ≤ b := fun b hb => (World.ownsRow.lt hu b hb).1
  refine wpList_append_own w hgd s x t ho base te i (.slice none 0 0) 1 bytes ht hi hz0 hz1 hz2 rfl (by decide) v vs.length vs hs h2 ⟨g, 0, none⟩ 1 1 [u] hx (by simp) ?_ ?_ (by rw [h1]; exact h63) (by rw [h1]; exact hbytes) hbase' ?_
  · intro j u' hj
    match j, hj with
    | 0, hj =>
      simp at hj
      subst hj
      simpa [Addr.add] using hc
    | j + 1, hj => simp at hj
  · intro u' hu'
    simp at hu'
    subst hu'
    exact hu.oneCell
  · intro v' w' hown' hg _
    have hB : Below base w w' := (Below.refl base w).grown hg hbase' (fun k hk => (World.ownsRow.lt h2 k hk).1)
    refine h v' w' ⟨vs ++ [u], by simp [h1], by simpa using hown', fun j hj => ?_, fun p q hpq hq b hpb hqb => ?_⟩ hB (fun k e z zs hne' hz => hz.besides h2 hne' hg)
    · simp at hj
      rcases Nat.lt_or_ge j xss.length with hl | hl
      · have := (h3 j hl).besides h2 hne hg
        simpa [List.getD_eq_getElem?_getD, List.getElem?_append_left hl, List.getElem?_append_left (show j < vs.length by omega)] using this
      · obtain rfl : j = xss.length := by omega
        have := (hu.mono hbase).besides h2 hne hg
        simpa [List.getD_eq_getElem?_getD, ← h1] using this
    · simp at hq
      have hp : p < vs.length := by omega
      rw [show (vs ++ [u]).getD p undef = vs.getD p undef by simp [List.getD_eq_getElem?_getD, List.getElem?_append_left hp]] at hpb
      rcases Nat.lt_or_ge q vs.length with hl | hl
      · rw [show (vs ++ [u]).getD q undef = vs.getD q undef by simp [List.getD_eq_getElem?_getD, List.getElem?_append_left hl]] at hqb
        exact h4 p q hpq hl b hpb hqb
      · obtain rfl : q = vs.length := by omega
        rw [show (vs ++ [u]).getD vs.length undef = u by simp [List.getD_eq_getElem?_getD]] at hqb
        have := hold p hp b hpb
        have := hnew b hqb
        omega

/-- append(dst, u): u a slice of bytes that the call made after all the rows before it -/
theorem wpList_appRowD {P : Program} (w : World) {ops : Array Oper} {rest : List Oper} {o : Oper} {a : Act} {Q : Exit → Act → World → Prop} (hgd : o.guard = none) (s x : Operand) (t : TypeId)
    (ho : o.op = .call { callee := .builtin .append, args := #[s, x], argTypes := #[t, t] })
    (base te tb : Nat) (hne : tb ≠ te) (bytes : Nat) (ht : P.underlying t = some (.slice te)) (hinfo : (P.info? te).map (fun i => (i.zero, i.size, i.bytes)) = some (some (.slice none 0 0), 1, bytes))
    (w0 : World) (hw0 : Below w0.heap.size w0 w) (v : Value) (xss : List (List Int)) (hs : a.eval s = v) (hown : OwnRowsD te tb base w0 v xss) (g : Nat) (u : Value) (ys : List Int) (hx : a.eval x = .slice (some ⟨g, 0, none⟩) 1 1) (hc : w.cell? ⟨g, 0, none⟩ = some u) (hu : Own .u8 tb w0.heap.size w u ys)
    (h63 : xss.length + 1 ≤ maxLen) (hbytes : (xss.length + 1) * bytes ≤ 140737488355328) (hbase : base ≤ w0.heap.size)
    (h : ∀ v' w', OwnRowsD te tb base w' v' (xss ++ [ys]) → Below base w w' → wpList P ops Q rest (a.put o.dst v') w') : wpList P ops Q (o :: rest) a w :=
  wpList_appRowE w hgd s x t ho base te tb hne bytes ht hinfo w0 hw0 v xss hs hown g u ys hx hc hu h63 hbytes hbase fun v' w' h1 h2 _ => h v' w' h1 h2

/-- what a write over one row of the call's own keeps -/
theorem OwnRowsD.over {te tb base : Nat} {w w' : World} {v : Value} {xss : List (List Int)} {k : Nat} (hne : tb ≠ te)
    {vs : List Value} (h1 : vs.length = xss.length) (h2 : w.ownsRow base te 1 v vs.length vs) (h3 : ∀ i, k ≤ i → i < xss.length → Own .u8 tb base w (vs.getD i undef) (xss.getD i [])) (h4 : Diff vs) (hk : k < xss.length) (hg : w.grownBy w' (vs.getD k undef).ownBlock) :
    w'.ownsRow base te 1 v vs.length vs ∧ ∀ i, k + 1 ≤ i → i < xss.length → Own .u8 tb base w' (vs.getD i undef) (xss.getD i []) := by
  constructor
  · refine World.ownsRow.kept h2 hg ?_
    rcases h2.2 with ⟨rfl, _⟩ | ⟨b, cap, cur, rfl, _, hh, _⟩
    · exact .inl rfl
    · refine .inr fun hrow => ?_
      rcases (h3 k (Nat.le_refl _) hk).2 with ⟨he, _⟩ | ⟨b', cap', cur', he, _, hh', _⟩
      · rw [he] at hrow; simp [Value.ownBlock] at hrow
      · rw [he] at hrow
        simp [Value.ownBlock] at hrow
        subst hrow
        rw [hh] at hh'
        simp at hh'
        exact hne hh'.2.symm
  · intro i hki hi
    refine World.ownsRow.kept (h3 i (by omega) hi) hg ?_
    cases hb : (vs.getD i undef).ownBlock with
    | none => exact .inl rfl
    | some b => exact .inr fun hrow => h4 k i (by omega) (by omega) b hrow.symm hb

/-- v[l:h] of a slice that holds vs -/
theorem run_cutS {P : Program} (w : World) (t e : TypeId) (ht : P.underlying t = some (.slice e)) {z : Value} {bytes : Nat} (hinfo : (P.info? e).map (fun i => (i.zero, i.size, i.bytes)) = some (some z, 1, bytes))
    (v : Value) (xs : List Value) (hs : Sv w v xs) (lo hi : Option Value) (l h : Nat) (hlo : (lo = none ∧ l = 0) ∨ ∃ kk, lo = some (.int kk (l : Int))) (hhi : (hi = none ∧ h = xs.length) ∨ ∃ kk, hi = some (.int kk (h : Int)))
    (hlh : l ≤ h) (hh : h ≤ xs.length) :
    ∃ v', (Instr.sliceAt t v lo hi none).run P w = .ok v' w ∧ Sv w v' ((xs.drop l).take (h - l)) := by
  obtain ⟨i, hi', hz0, hz1, hz2⟩ := info_parts hinfo
  obtain ⟨a, cap, rfl, hl, hm, hc⟩ := hs
  have hrun : (Instr.sliceAt t (.slice a xs.length cap) lo hi none).run P w = .ok (.slice (if cap = l then a else a.map (·.add (l * 1))) (h - l) (cap - l)) w := by
    have e1 : (0 : Int) ≤ (l : Int) ∧ (l : Int) ≤ (h : Int) := by omega
    have e2 : (0 : Int) ≤ (h : Int) ∧ (h : Int) ≤ (cap : Int) := by omega
    rcases hlo with ⟨rfl, rfl⟩ | ⟨kl, rfl⟩ <;> rcases hhi with ⟨rfl, rfl⟩ | ⟨kh, rfl⟩ <;>
      simp [Instr.sliceAt, Instr.slice, run_underlying ht, Instr.sliceBounds, Instr.sliceBound, asIntOf, sizeOf, typeInfo, hi', hz1, e1, e2]
    · intro hx; omega
    · intro hx; omega
    · rw [if_pos (by omega), if_pos (by omega)]
  refine ⟨_, hrun, ?_⟩
  have hlen : ((xs.drop l).take (h - l)).length = h - l := by simp; omega
  rcases hc with rfl | ⟨b, off, rfl, hbb, hc⟩
  · have h0 : h = 0 := by omega
    have l0 : l = 0 := by omega
    subst h0 l0
    exact ⟨_, 0, by simp; rfl, by simp, hm, .inl rfl⟩
  · refine ⟨_, cap - l, by rw [hlen], by rw [hlen]; omega, by omega, .inr ⟨b, (if cap = l then off else off + l), ?_, fun h0 => hbb (by omega), fun j hj => ?_⟩⟩
    · split
      · rfl
      · simp [Addr.add]
    · rw [hlen] at hj
      rw [if_neg (by omega), Nat.add_assoc, hc (l + j) (by omega)]
      congr 1
      simp only [List.getD_eq_getElem?_getD, List.getElem?_take, if_pos hj, List.getElem?_drop]

theorem rws_cut {w : World} {v : Value} {xss : List (List Int)} {vs : List Value} {l h : Nat} (h1 : vs.length = xss.length) (h3 : ∀ i, i < xss.length → Sl .u8 w (vs.getD i undef) (xss.getD i [])) (hs : Sv w v ((vs.drop l).take (h - l))) (hlh : l ≤ h) (hh : h ≤ xss.length) :
    Rws w v ((xss.drop l).take (h - l)) := by
  refine ⟨_, by simp [h1], hs, fun i hi => ?_⟩
  simp at hi
  have := h3 (l + i) (by omega)
  simpa only [List.getD_eq_getElem?_getD, List.getElem?_take, if_pos (show i < h - l by omega), List.getElem?_drop] using this

/-- v[i:] of rows -/
theorem wpList_fromR {P : Program} (w : World) {ops : Array Oper} {rest : List Oper} {o : Oper} {a : Act} {Q : Exit → Act → World → Prop} (hgd : o.guard = none) (x lo : Operand) (t : TypeId)
    (ho : o.op = .slice t x (some lo) none none) (e : TypeId) (bytes : Nat) (ht : P.underlying t = some (.slice e)) (hinfo : (P.info? e).map (fun i => (i.zero, i.size, i.bytes)) = some (some (.slice none 0 0), 1, bytes))
    (v : Value) (xss : List (List Int)) (hx : a.eval x = v) (hs : Rws w v xss) (kk : IntKind) (i : Int) (hlo : a.eval lo = .int kk i) (h0 : 0 ≤ i) (h1 : i ≤ xss.length)
    (h : ∀ v', Rws w v' (xss.drop i.toNat) → wpList P ops Q rest (a.put o.dst v') w) : wpList P ops Q (o :: rest) a w := by
  obtain ⟨n, rfl⟩ := Int.eq_ofNat_of_zero_le h0
  obtain ⟨vs, l1, s1, r1⟩ := hs
  obtain ⟨v', hrun, hv'⟩ := run_cutS (P := P) w t e ht hinfo v vs s1 (some (.int kk (n : Int))) none n vs.length (.inr ⟨kk, rfl⟩) (.inl ⟨rfl, rfl⟩) (by omega) (Nat.le_refl _)
  refine wpList_plain hgd fun K hK => ?_
  unfold Oper.wp
  simp [execOp, ho, hx, hlo, hrun, Result.andThen]
  refine hK _ _ (h v' ?_)
  have := rws_cut l1 r1 hv' (by omega) (by omega)
  rw [List.take_of_length_le (by simp; omega)] at this
  exact this

/-- v[:j] of rows -/
theorem wpList_toR {P : Program} (w : World) {ops : Array Oper} {rest : List Oper} {o : Oper} {a : Act} {Q : Exit → Act → World → Prop} (hgd : o.guard = none) (x hi : Operand) (t : TypeId)
    (ho : o.op = .slice t x none (some hi) none) (e : TypeId) (bytes : Nat) (ht : P.underlying t = some (.slice e)) (hinfo : (P.info? e).map (fun i => (i.zero, i.size, i.bytes)) = some (some (.slice none 0 0), 1, bytes))
    (v : Value) (xss : List (List Int)) (hx : a.eval x = v) (hs : Rws w v xss) (kj : IntKind) (j : Int) (hhi : a.eval hi = .int kj j) (h0 : 0 ≤ j) (h1 : j ≤ xss.length)
    (h : ∀ v', Rws w v' (xss.take j.toNat) → wpList P ops Q rest (a.put o.dst v') w) : wpList P ops Q (o :: rest) a w := by
  obtain ⟨m, rfl⟩ := Int.eq_ofNat_of_zero_le h0
  obtain ⟨vs, l1, s1, r1⟩ := hs
  obtain ⟨v', hrun, hv'⟩ := run_cutS (P := P) w t e ht hinfo v vs s1 none (some (.int kj (m : Int))) 0 m (.inl ⟨rfl, rfl⟩) (.inr ⟨kj, rfl⟩) (by omega) (by omega)
  refine wpList_plain hgd fun K hK => ?_
  unfold Oper.wp
  simp [execOp, ho, hx, hhi, hrun, Result.andThen]
  refine hK _ _ (h v' ?_)
  have := rws_cut l1 r1 hv' (by omega) (by omega)
  simpa using this

/-- append(dst, src...): the rows of an old slice behind rows of the call's own -/
theorem wpList_appRows {P : Program} (w : World) {ops : Array Oper} {rest : List Oper} {o : Oper} {a : Act} {Q : Exit → Act → World → Prop} (hgd : o.guard = none) (s x : Operand) (t : TypeId)
    (ho : o.op = .call { callee := .builtin .append, args := #[s, x], argTypes := #[t, t] })
    (te tb : Nat) (hne : tb ≠ te) (bytes : Nat) (ht : P.underlying t = some (.slice te)) (hinfo : (P.info? te).map (fun i => (i.zero, i.size, i.bytes)) = some (some (.slice none 0 0), 1, bytes))
    (w0 : World) (hw0 : Below w0.heap.size w0 w) (v : Value) (xss yss : List (List Int)) (hs : a.eval s = v) (hown : OwnRows te tb w0.heap.size w v xss) (u : Value) (hx : a.eval x = u) (hu : Rws w0 u yss)
    (h63 : xss.length + yss.length ≤ maxLen) (hbytes : (xss.length + yss.length) * bytes ≤ 140737488355328)
    (h : ∀ v' w', Rws w' v' (xss ++ yss) → Below w0.heap.size w w' → wpList P ops Q rest (a.put o.dst v') w') : wpList P ops Q (o :: rest) a w := by
  obtain ⟨i, hi, hz0, hz1, hz2⟩ := info_parts hinfo
  have hbase : w0.heap.size ≤ w.heap.size := hw0.size
  obtain ⟨vs, h1, h2, h3⟩ := hown
  have hrs := hu.below hw0
  obtain ⟨us, l1, s1, r1⟩ := hu
  have s1 := s1.below hw0
  have hfin : ∀ v' w', w'.ownsRow w0.heap.size te 1 v' (vs.length + us.length) (vs ++ us) → w.grownBy w' v.ownBlock → Rws w' v' (xss ++ yss) ∧ Below w0.heap.size w w' := by
    intro v' w' hown' hg
    have hB : Below w0.heap.size w w' := (Below.refl w0.heap.size w).grown hg hbase (fun k hk => (World.ownsRow.lt h2 k hk).1)
    refine ⟨⟨vs ++ us, by simp [h1, l1], Sv.of_row (by simpa using hown'), fun j hj => ?_⟩, hB⟩
    simp at hj
    rcases Nat.lt_or_ge j xss.length with hl | hl
    · have := ((h3 j hl).besides h2 hne hg).sl
      simpa [List.getD_eq_getElem?_getD, List.getElem?_append_left hl, List.getElem?_append_left (show j < vs.length by omega)] using this
    · have := (r1 (j - xss.length) (by omega)).below (hw0.trans hB)
      simpa [List.getD_eq_getElem?_getD, List.getElem?_append_right hl, List.getElem?_append_right (show vs.length ≤ j by omega), h1] using this
  obtain ⟨ao, cap, rfl, hl, hm, hc⟩ := s1
  rcases hc with rfl | ⟨b, off, rfl, hbb, hc⟩
  · have hy : us = [] := List.eq_nil_of_length_eq_zero (by omega)
    subst hy
    simp only [List.length_nil] at hx
    match ao, hx with
    | none, hx =>
      refine wpList_plain hgd fun K hK => ?_
      have hrun := run_append_owned_none (P := P) w w0.heap.size t o.type te i 1 ht hi v vs.length vs h2
      unfold Oper.wp
      simp [execOp, ho, resolve, invoke, builtin, hs, hx, hrun, Result.andThen]
      obtain ⟨f1, f2⟩ := hfin v w (by simpa using h2) (World.grownBy.refl _ _)
      exact hK _ _ (h v w f1 f2)
    | some ad, hx =>
      refine wpList_append_own w hgd s x t ho w0.heap.size te i (.slice none 0 0) 1 bytes ht hi hz0 hz1 hz2 rfl (by decide) v vs.length vs hs h2 ad 0 0 [] hx (by simp) (fun j u hj => by simp at hj) (fun u hu => by cases hu) (by simp at l1; omega) (by simp at l1; rw [h1]; rw [← l1] at hbytes; simpa using hbytes) hbase ?_
      intro v' w' hown' hg _
      obtain ⟨f1, f2⟩ := hfin v' w' (by simpa using hown') hg
      exact h v' w' f1 f2
  · refine wpList_append_own w hgd s x t ho w0.heap.size te i (.slice none 0 0) 1 bytes ht hi hz0 hz1 hz2 rfl (by decide) v vs.length vs hs h2 ⟨b, off, none⟩ us.length cap us hx (by simp) ?_ ?_ (by rw [h1, l1]; exact h63) (by rw [h1, l1]; exact hbytes) hbase ?_
    · intro j u hj
      have hadd : (⟨b, off, none⟩ : Addr).add j = ⟨b, off + j, none⟩ := by unfold Addr.add; split <;> simp_all
      rcases Nat.lt_or_ge j us.length with hjl | hjl
      · rw [hadd, hc j hjl, ← hj, List.getD_eq_getElem?_getD, List.getElem?_eq_getElem hjl]; rfl
      · rw [List.getElem?_eq_none hjl] at hj; cases hj
    · intro u hu
      obtain ⟨j, hj, rfl⟩ := List.getElem_of_mem hu
      obtain ⟨a', c', he⟩ := (r1 j (by omega)).form
      rw [List.getD_eq_getElem?_getD, List.getElem?_eq_getElem hj] at he
      simp only [Option.getD_some] at he
      rw [he]; rfl
    · intro v' w' hown' hg _
      obtain ⟨f1, f2⟩ := hfin v' w' (by simpa using hown') hg
      exact h v' w' f1 f2

end Go.Proofs.Ytgdbjbkmkdkhhaa
