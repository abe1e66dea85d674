/- Rows in a statement that draws its order: cuts of rows in every world, append of rows as one step; plain facts of sorting used by SetsSort. -/
import Derived.Test.YtgdbjbkmkdkhhaaLawExact4
import Derived.Deep.RegionLaw
namespace Go.Proofs.Ytgdbjbkmkdkhhaa
open Go.RowKit

/-- v[l:h] of rows as a run equation of every world -/
theorem cut_allR {P : Program} (w0 : World) (t e : TypeId) (ht : P.underlying t = some (.slice e)) {z : Value} {bytes : Nat} (hinfo : (P.info? e).map (fun i => (i.zero, i.size, i.bytes)) = some (some z, 1, bytes))
    (v : Value) (xss : List (List Int)) (hs : Rws w0 v xss) (lo hi : Option Value) (l h : Nat) (hlo : (lo = none ∧ l = 0) ∨ ∃ kk, lo = some (.int kk (l : Int))) (hhi : (hi = none ∧ h = xss.length) ∨ ∃ kk, hi = some (.int kk (h : Int)))
    (hlh : l ≤ h) (hh : h ≤ xss.length) :
    ∃ v', (∀ w, (Instr.sliceAt t v lo hi none).run P w = .ok v' w) ∧ (∀ w, (Instr.slice t v lo hi none).run P w = .ok v' w) ∧ ∀ w, Rws w v xss → Rws w v' ((xss.drop l).take (h - l)) := by
  obtain ⟨a, n, cap, rfl, hnl, hcap⟩ : ∃ a n cap, v = .slice a n cap ∧ n = xss.length ∧ n ≤ cap := by
    obtain ⟨vs, h1, ⟨a, cap, hv, hl, -, -⟩, -⟩ := hs
    exact ⟨a, _, cap, hv, h1, hl⟩
  obtain ⟨i, hi', hz0, hz1, hz2⟩ := info_parts hinfo
  have gen : ∀ w, (Instr.sliceAt t (.slice a n cap) lo hi none).run P w = .ok (.slice (if cap = l then a else a.map (·.add (l * 1))) (h - l) (cap - l)) w ∧ (Instr.slice t (.slice a n cap) lo hi none).run P w = .ok (.slice (if cap = l then a else a.map (·.add (l * 1))) (h - l) (cap - l)) w := by
    intro w
    have e1 : (0 : Int) ≤ (l : Int) ∧ (l : Int) ≤ (h : Int) := by omega
    have e2 : (0 : Int) ≤ (h : Int) ∧ (h : Int) ≤ (cap : Int) := by omega
    subst hnl
    rcases hlo with ⟨rfl, rfl⟩ | ⟨kl, rfl⟩ <;> rcases hhi with ⟨rfl, rfl⟩ | ⟨kh, rfl⟩ <;>
      simp [Instr.sliceAt, Instr.slice, run_underlying ht, Instr.sliceBounds, Instr.sliceBound, asIntOf, sizeOf, typeInfo, hi', hz1, e1, e2]
    · intro hx; omega
    · intro hx; omega
    · rw [if_pos (by omega), if_pos (by omega)]
  refine ⟨_, fun w => (gen w).1, fun w => (gen w).2, fun w hw => ?_⟩
  obtain ⟨vs, l1, s1, r1⟩ := hw
  obtain ⟨v2, h2, hs2⟩ := run_cutS (P := P) w t e ht hinfo _ vs s1 lo hi l h hlo (by rw [l1]; exact hhi) hlh (by omega)
  rw [(gen w).1] at h2
  injection h2 with h2
  rw [h2]
  exact rws_cut l1 r1 hs2 hlh hh

/-- append(dst, src...) of rows, run: the rows of an old slice behind rows of the call's own -/
theorem run_appRows {P : Program} (w : World) (t ty : TypeId) (te tb : Nat) (hne : tb ≠ te) (bytes : Nat) (ht : P.underlying t = some (.slice te)) (hinfo : (P.info? te).map (fun i => (i.zero, i.size, i.bytes)) = some (some (.slice none 0 0), 1, bytes))
    (w0 : World) (hw0 : Below w0.heap.size w0 w) (v : Value) (xss yss : List (List Int)) (hown : OwnRows te tb w0.heap.size w v xss) (u : Value) (hu : Rws w0 u yss)
    (h63 : xss.length + yss.length ≤ maxLen) (hbytes : (xss.length + yss.length) * bytes ≤ 140737488355328) :
    ∃ v' w', (Builtin.append_ #[t, t] ty #[v, u]).run P w = .ok v' w' ∧ Rws w' v' (xss ++ yss) ∧ Below w0.heap.size w w' := by
  obtain ⟨i, hi, hz0, hz1, hz2⟩ := info_parts hinfo
  have hbase : w0.heap.size ≤ w.heap.size := hw0.size
  obtain ⟨vs, h1, h2, h3⟩ := hown
  obtain ⟨us, l1, s1, r1⟩ := hu
  have s1 := s1.below hw0
  have hfin : ∀ v' w', w'.ownsRow w0.heap.size te 1 v' (vs.length + us.length) (vs ++ us) → w.grownBy w' v.ownBlock → Rws w' v' (xss ++ yss) ∧ Below w0.heap.size w w' := by
    intro v' w' hown' hg
    have hB : Below w0.heap.size w w' := (Below.refl w0.heap.size w).grown hg hbase (fun k hk => (World.ownsRow.lt h2 k hk).1)
    refine ⟨⟨vs ++ us, by simp [h1, l1], Sv.of_row (by simpa using hown'), fun j hj => ?_⟩, hB⟩
    simp at hj
    rcases Nat.lt_or_ge j xss.length with hl | hl
    · have := ((h3 j hl).besides h2 hne hg).sl
      simpa [List.getD_eq_getElem?_getD, List.getElem?_append_left hl, List.getElem?_append_left (show j < vs.length by omega)] using this
    · have := (r1 (j - xss.length) (by omega)).below (hw0.trans hB)
      simpa [List.getD_eq_getElem?_getD, List.getElem?_append_right hl, List.getElem?_append_right (show vs.length ≤ j by omega), h1] using this
  obtain ⟨ao, cap, rfl, hl, hm, hc⟩ := s1
  rcases hc with rfl | ⟨b, off, rfl, hbb, hc⟩
  · have hy : us = [] := List.eq_nil_of_length_eq_zero (by omega)
    subst hy
    cases ao with
    | none =>
      have hrun := run_append_owned_none (P := P) w w0.heap.size t ty te i 1 ht hi v vs.length vs h2
      obtain ⟨f1, f2⟩ := hfin v w (by simpa using h2) (World.grownBy.refl _ _)
      exact ⟨v, w, hrun, f1, f2⟩
    | some ad =>
      obtain ⟨v', w', hrun, r1', r2', _⟩ := run_append_own (P := P) w w0.heap.size t ty te i (.slice none 0 0) 1 bytes ht hi hz0 hz1 hz2 rfl (by decide) v vs.length vs h2 ad 0 0 [] (by simp) (fun j u hj => by simp at hj) (fun u hu => by cases hu) (by simp at l1; omega) (by simp at l1; rw [h1]; rw [← l1] at hbytes; simpa using hbytes) hbase
      obtain ⟨f1, f2⟩ := hfin v' w' (by simpa using r1') r2'
      exact ⟨v', w', hrun, f1, f2⟩
  · obtain ⟨v', w', hrun, r1', r2', _⟩ := run_append_own (P := P) w w0.heap.size t ty te i (.slice none 0 0) 1 bytes ht hi hz0 hz1 hz2 rfl (by decide) v vs.length vs h2 ⟨b, off, none⟩ us.length cap us (by simp) (by
      intro j u hj
      have hadd : (⟨b, off, none⟩ : Addr).add j = ⟨b, off + j, none⟩ := by unfold Addr.add; split <;> simp_all
      rcases Nat.lt_or_ge j us.length with hjl | hjl
      · rw [hadd, hc j hjl, ← hj, List.getD_eq_getElem?_getD, List.getElem?_eq_getElem hjl]; rfl
      · rw [List.getElem?_eq_none hjl] at hj; cases hj) (by
      intro u hu
      obtain ⟨j, hj, rfl⟩ := List.getElem_of_mem hu
      obtain ⟨a', c', he⟩ := (r1 j (by omega)).form
      rw [List.getD_eq_getElem?_getD, List.getElem?_eq_getElem hj] at he
      simp only [Option.getD_some] at he
      rw [he]; rfl) (by rw [h1, l1]; exact h63) (by rw [h1, l1]; exact hbytes) hbase
    obtain ⟨f1, f2⟩ := hfin v' w' (by simpa using r1') r2'
    exact ⟨v', w', hrun, f1, f2⟩

theorem step_appRows {P : Program} {ops : Array Oper} {o : Oper} {a : Act} {w : World} {K : Act → World → Prop} {Q : Exit → Act → World → Prop} {E : Prop}
    (hg : o.guard = none) (s x : Operand) (t : TypeId) (hop : o.op = Op.call { callee := Callee.builtin Builtin.append, args := #[s, x], argTypes := #[t, t] })
    (te tb : Nat) (hne : tb ≠ te) (bytes : Nat) (ht : P.underlying t = some (.slice te)) (hinfo : (P.info? te).map (fun i => (i.zero, i.size, i.bytes)) = some (some (.slice none 0 0), 1, bytes))
    (w0 : World) (hw0 : Below w0.heap.size w0 w) (v : Value) (xss yss : List (List Int)) (hs : a.eval s = v) (hown : OwnRows te tb w0.heap.size w v xss) (u : Value) (hx : a.eval x = u) (hu : Rws w0 u yss)
    (h63 : xss.length + yss.length ≤ maxLen) (hbytes : (xss.length + yss.length) * bytes ≤ 140737488355328)
    (hK : ∀ v' w', Rws w' v' (xss ++ yss) → Below w0.heap.size w w' → K (a.put o.dst v') w') :
    if Region.wanted o (yielded ops a.tmps) = true then Oper.wp P o a w K Q else E := by
  have hw : Region.wanted o (yielded ops a.tmps) = true := by simp [Region.wanted, hg]
  rw [if_pos hw]
  obtain ⟨v', w', hrun, r1, r2⟩ := run_appRows (P := P) w t o.type te tb hne bytes ht hinfo w0 hw0 v xss yss hown u hu h63 hbytes
  unfold Oper.wp
  simp [execOp, hop, resolve, invoke, builtin, hs, hx, hrun, Result.andThen]
  exact hK v' w' r1 r2

theorem sorted_eq {l : List (List Int)} {p : List Nat} (h : IsPl l l.length p) : eqR (rowsAt l p) l = sortedS l := by
  cases hs : sortedS l with
  | true => exact eqR_iff.2 (sorted_rows h hs)
  | false =>
    have hne : rowsAt l p ≠ l := fun he => by
      have := rows_sorted h.2
      rw [he, hs] at this
      cases this
    simp [eqR, hne]
theorem sort_twice {l : List (List Int)} {p q : List Nat} (h : IsPl l l.length p) (k : IsPl (rowsAt l p) (rowsAt l p).length q) : rowsAt (rowsAt l p) q = rowsAt l p := sorted_rows k (rows_sorted h.2)
theorem ru_mem {l : List (List Int)} {p : List Nat} (h : IsPl l l.length p) {x : List Int} (hx : x ∈ rowsAt l p) : x ∈ l := (rows_perm h).mem_iff.1 hx

/-- which of the first n have been met -/
def mb (n : Nat) (t : List Nat) : List Value := (List.range n).map fun j => .bool (decide (j ∈ t))
theorem mb_at {n q : Nat} {t : List Nat} (h : q < n) : (mb n t)[q]? = some (.bool (decide (q ∈ t))) := by simp [mb, h]
theorem mb_set {n q : Nat} {t : List Nat} (_h : q < n) : (mb n t).set q (.bool true) = mb n (t ++ [q]) := by
  apply List.ext_getElem
  · simp [mb]
  · intro i h1 h2
    simp only [mb, List.getElem_set, List.getElem_map, List.getElem_range, List.mem_append, List.mem_singleton]
    by_cases hi : q = i
    · subst hi; simp
    · rw [if_neg hi]
      have : (i ∈ t ∨ i = q) ↔ i ∈ t := ⟨fun h => h.elim id (fun e => absurd e.symm hi), .inl⟩
      simp only [this]
theorem not_met {p : List Nat} (h : p.Nodup) {k : Nat} (hk : k < p.length) : p.getD k 0 ∉ p.take k := by
  have e : p.drop k = p.getD k 0 :: p.drop (k + 1) := by
    rw [List.drop_eq_getElem_cons hk, List.getD_eq_getElem?_getD, List.getElem?_eq_getElem hk]; rfl
  rw [← List.take_append_drop k p, e, List.nodup_append] at h
  intro hm
  exact h.2.2 _ hm _ (List.mem_cons_self ..) rfl
theorem take_next {p : List Nat} {k : Nat} (hk : k < p.length) : p.take (k + 1) = p.take k ++ [p.getD k 0] := by
  rw [List.take_add_one, List.getD_eq_getElem?_getD, List.getElem?_eq_getElem hk]; rfl
theorem infoBoolOf : (Try.prog.info? 4).map (fun i => (i.zero, i.size, i.bytes)) = some (some (.bool false), 1, 1) := by kernel_rfl
theorem make_bools (n : Nat) (hn : n ≤ 1000000) (w : World) : (Instr.makeSlice 36 (.int .i64 (n : Int)) (.int .i64 (n : Int))).run Try.prog w = .ok (.slice (some ⟨w.heap.size, 0, none⟩) n n) (w.alloc (.cells (mb n []).toArray 4)) := by
  obtain ⟨i, hi, hz0, hz1, hz2⟩ := info_parts infoBoolOf
  have := run_make (P := Try.prog) w 36 4 i (.bool false) Try.underlying36 hi hz0 .i64 .i64 (n : Int) (n : Int) (by omega) (by omega) (by rw [hz2]; omega) (by omega)
  rw [this, hz1]
  have e : madeCells (Value.bool false).cells ((n : Int).toNat * 1) = (mb n []).toArray := by
    apply Array.ext
    · simp [madeCells, mb]
    · intro j h1 h2
      simp [madeCells, Value.cells, Nat.mod_one, mb]
  rw [e]
  rfl
end Go.Proofs.Ytgdbjbkmkdkhhaa
