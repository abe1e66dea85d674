/- Several texts in one: Keep, Twin, Grid. -/
import Derived.Test.YtkjhbfcblnbkfaaPk1
/-! Keep -/
namespace Go.Proofs.Ytkjhbfcblnbkfaa
open Go.RowKit

theorem keepBytes (v1 v2 : Value) (xs ys : List Int) (w : World) (h1 : Sl .u8 w v1 xs) (h2 : Sl .u8 w v2 ys) :
    Calls Try.prog 15 #[v1, v2] w fun e w' => e = .returned (.bool (eqL xs ys)) ∧ ∃ n, w' = w.drewN n := by
  have m1 := h1.len
  have m2 := h2.len
  obtain ⟨a1, cap1, rfl, q1, -, h1⟩ := h1
  obtain ⟨a2, cap2, rfl, q2, -, h2⟩ := h2
  by_cases hne : xs.length = ys.length
  · rcases Nat.eq_zero_or_pos xs.length with h0 | h0
    · have hx : xs = [] := List.eq_nil_of_length_eq_zero h0
      have hy : ys = [] := List.eq_nil_of_length_eq_zero (by omega)
      subst hx hy
      clear h1 h2 hne h0
      simp only [List.length_nil]
      go_enter Try.func15, Try.ntmps15
      go_wp2
      go_loopw [5] (fun i wr => i = .int .i64 0 ∧ wr = w) (fun i _ => 0)
      case atStart => exact ⟨rfl, rfl⟩
      case round =>
        obtain ⟨rfl, rfl⟩ := hrel
        go_wp2
        go_ret
        exact ⟨rfl, 0, rfl⟩
    · rcases h1 with hc | ⟨b1, o1, rfl, hb1, c1⟩
      · omega
      rcases h2 with hc | ⟨b2, o2, rfl, hb2, c2⟩
      · omega
      rw [← hne] at c2 ⊢
      have HN := hid hne
      obtain ⟨len, hlen⟩ : ∃ len, len = xs.length := ⟨_, rfl⟩
      clear q1 q2
      rw [← hlen] at c1 c2 m1 h0 ⊢
      have HL := hid hlen
      clear hlen m2 hne
      have C1 := hid c1
      have C2 := hid c2
      clear c1 c2 hb1 hb2
      go_enter Try.func15, Try.ntmps15
      go_wp2
      go_loopw [5] (fun i wr => ∃ k n : Nat, k ≤ len ∧ i = .int .i64 k ∧ wr = w.drewN n ∧ Hid (∀ i, i < k → xs.getD i 0 = ys.getD i 0)) (fun i _ => len - (intOf i).toNat)
      case atStart => exact ⟨0, 0, by omega, rfl, rfl, fun i hi => absurd hi (by omega)⟩
      case round =>
        obtain ⟨k, n, hk, rfl, rfl, hall⟩ := hrel
        by_cases hlt : k < len
        · have d1 := C1.out k hlt
          have d2 := C2.out k hlt
          go_wp2
          go_quiet (fail)
          go_wp2
          · have ht : (xs[k]?.getD 0 != ys[k]?.getD 0) = true := by assumption
            go_ret
            refine ⟨ret_bool ?_, drewN_ex _ _ _⟩
            have : xs ≠ ys := by rintro rfl; simp at ht
            simp [eqL, this]
          · have ht : (xs[k]?.getD 0 != ys[k]?.getD 0) = false := by assumption
            go_roundw
            case rel =>
              refine ⟨k + 1, _, by omega, by go_num, rfl, fun i hi => ?_⟩
              rcases Nat.lt_or_ge i k with h | h
              · exact hall.out i h
              · obtain rfl : i = k := by omega
                simpa [List.getD_eq_getElem?_getD] using ht
            case measure => simp [intOf]; omega
        · go_wp2
          go_ret
          refine ⟨ret_bool ?_, n, rfl⟩
          exact (eqL_iff.2 (ext_getD HN.out fun i hi => hall.out i (by rw [← HL.out] at hi; omega))).symm
  · have hf : eqL xs ys = false := by
      have : xs ≠ ys := by rintro rfl; exact hne rfl
      simp [eqL, this]
    rw [hf]
    clear hf h1 h2 q1 q2
    have ht : ((xs.length : Int) != (ys.length : Int)) = true := by simp; omega
    clear hne
    generalize xs.length = l1 at ht m1 ⊢
    generalize ys.length = l2 at ht m2 ⊢
    go_enter Try.func15, Try.ntmps15
    go_wp2
    go_ret
    exact ⟨rfl, 0, rfl⟩

theorem Try.infoU8 : (Try.prog.info? 5).map (fun i => (i.zero, i.size, i.bytes)) = some (some (.int .u8 0), 1, 1) := by kernel_rfl

end Go.Proofs.Ytkjhbfcblnbkfaa

/-! Twin -/
namespace Go.Proofs.Ytkjhbfcblnbkfaa
open Go.RowKit

theorem keepTwin (v : Value) (xs : List Int) (w : World) (h : Sl .u8 w v xs) (hl : xs.length ≤ 100000000000000) :
    Calls Try.prog 12 #[v] w fun e w' => ∃ v', e = .returned v' ∧ Own .u8 5 w.heap.size w' v' xs ∧ Below w.heap.size w w' := by
  have H := hid h
  obtain ⟨a, cap, rfl, -, -, -⟩ := h
  go_enter Try.func12, Try.ntmps12
  go_wp2_with (at_builtin; refine wpList_app _ rfl _ _ 25 rfl .u8 w.heap.size 5 1 Try.underlying25 Try.infoU8 _ [] xs rfl (Own.nil _ _ _ _) _ rfl H.out (by unfold maxLen; simp; omega) (by simp; omega) (by omega) ?_; intro v' w' ho hg hb hn)
  go_ret
  exact ⟨_, rfl, ho, hb⟩

end Go.Proofs.Ytkjhbfcblnbkfaa

/-! Grid -/
namespace Go.Proofs.Ytkjhbfcblnbkfaa
open Go.RowKit

/-- The value v is a slice that holds the values vs. -/
def Sv (w : World) (v : Value) (vs : List Value) : Prop :=
  ∃ a cap, v = .slice a vs.length cap ∧ vs.length ≤ cap ∧ cap ≤ maxLen ∧
    (cap = 0 ∨ ∃ b off, a = some ⟨b, off, none⟩ ∧ (0 < vs.length → b < w.heap.size) ∧ ∀ i, i < vs.length → w.cell? ⟨b, off + i, none⟩ = some (vs.getD i undef))

/-- The value v is a slice of slices of bytes. -/
def Rws (w : World) (v : Value) (xss : List (List Int)) : Prop :=
  ∃ vs, vs.length = xss.length ∧ Sv w v vs ∧ ∀ i, i < xss.length → Sl .u8 w (vs.getD i undef) (xss.getD i [])

/-- .. that the call itself made, each row too -/
def OwnRows (te tb base : Nat) (w : World) (v : Value) (xss : List (List Int)) : Prop :=
  ∃ vs, vs.length = xss.length ∧ w.ownsRow base te 1 v vs.length vs ∧ ∀ i, i < xss.length → Own .u8 tb base w (vs.getD i undef) (xss.getD i [])

theorem Sv.below {w w' : World} {v : Value} {vs : List Value} (h : Sv w v vs) (hb : Below w.heap.size w w') : Sv w' v vs := by
  obtain ⟨a, cap, hv, hl, hm, h⟩ := h
  refine ⟨a, cap, hv, hl, hm, ?_⟩
  rcases h with h | ⟨b, off, ha, hbb, hc⟩
  · exact .inl h
  · exact .inr ⟨b, off, ha, fun h0 => Nat.lt_of_lt_of_le (hbb h0) hb.size, fun i hi => (hb.cell (p := ⟨b, off + i, none⟩) (hbb (by omega))).trans (hc i hi)⟩
theorem Sv.of_row {base te : Nat} {w : World} {v : Value} {vs : List Value} (h : w.ownsRow base te 1 v vs.length vs) : Sv w v vs := by
  obtain ⟨h1, h2⟩ := h
  rcases h2 with ⟨rfl, hn⟩ | ⟨g, cap, cur, rfl, hb, hg, hnc, hcm, hcs, ht⟩
  · exact ⟨none, 0, by rw [hn], by omega, by unfold maxLen; omega, .inl rfl⟩
  · refine ⟨some ⟨g, 0, none⟩, cap, rfl, hnc, hcm, .inr ⟨g, 0, rfl, fun _ => (Array.getElem?_eq_some_iff.1 hg).1, fun i hi => ?_⟩⟩
    rw [cell_of_row w g (0 + i) cur te (0, 0) hg]
    have : (cur.toList.take (vs.length * 1))[i]? = vs[i]? := by rw [ht]
    rw [List.getElem?_take, if_pos (by omega)] at this
    simp only [Nat.zero_add]
    rw [← Array.getElem?_toList, this, List.getD_eq_getElem?_getD, List.getElem?_eq_getElem hi]
    rfl
theorem Rws.below {w w' : World} {v : Value} {xss : List (List Int)} (h : Rws w v xss) (hb : Below w.heap.size w w') : Rws w' v xss := by
  obtain ⟨vs, h1, h2, h3⟩ := h
  exact ⟨vs, h1, h2.below hb, fun i hi => (h3 i hi).below hb⟩
theorem OwnRows.rws {te tb base : Nat} {w : World} {v : Value} {xss : List (List Int)} (h : OwnRows te tb base w v xss) : Rws w v xss := by
  obtain ⟨vs, h1, h2, h3⟩ := h
  exact ⟨vs, h1, Sv.of_row h2, fun i hi => (h3 i hi).sl⟩
theorem Rws.drewN {w : World} {v : Value} {xss : List (List Int)} (h : Rws w v xss) (n : Nat) : Rws (w.drewN n) v xss := h

theorem ownsRow_below {base te n : Nat} {w w' : World} {v : Value} {vs : List Value} (h : w.ownsRow base te 1 v n vs) (hb : Below w.heap.size w w') : w'.ownsRow base te 1 v n vs := by
  obtain ⟨h1, h2⟩ := h
  refine ⟨h1, ?_⟩
  rcases h2 with h2 | ⟨g, cap, cur, hv, hg, hh, r⟩
  · exact .inl h2
  · exact .inr ⟨g, cap, cur, hv, hg, by rw [hb.block g (Array.getElem?_eq_some_iff.1 hh).1]; exact hh, r⟩
theorem OwnRows.below {te tb base : Nat} {w w' : World} {v : Value} {xss : List (List Int)} (h : OwnRows te tb base w v xss) (hb : Below w.heap.size w w') : OwnRows te tb base w' v xss := by
  obtain ⟨vs, h1, h2, h3⟩ := h
  exact ⟨vs, h1, ownsRow_below h2 hb, fun i hi => (h3 i hi).below hb⟩
theorem ownsRow_mono {base base' te n : Nat} {w : World} {v : Value} {vs : List Value} (h : w.ownsRow base te 1 v n vs) (hb : base' ≤ base) : w.ownsRow base' te 1 v n vs := by
  obtain ⟨h1, h2⟩ := h
  refine ⟨h1, ?_⟩
  rcases h2 with h2 | ⟨g, cap, cur, hv, hg, r⟩
  · exact .inl h2
  · exact .inr ⟨g, cap, cur, hv, by omega, r⟩
theorem OwnRows.mono {te tb base base' : Nat} {w : World} {v : Value} {xss : List (List Int)} (h : OwnRows te tb base w v xss) (hb : base' ≤ base) : OwnRows te tb base' w v xss := by
  obtain ⟨vs, h1, h2, h3⟩ := h
  exact ⟨vs, h1, ownsRow_mono h2 hb, fun i hi => (h3 i hi).mono hb⟩
theorem OwnRows.nil (te tb base : Nat) (w : World) : OwnRows te tb base w (.slice none 0 0) [] := ⟨[], rfl, World.ownsRow_nil _ _ _ _, fun i hi => by simp at hi⟩

theorem Own.oneCell {k : IntKind} {e base : Nat} {w : World} {v : Value} {xs : List Int} (h : Own k e base w v xs) : v.oneCell' = true := by
  rcases h.2 with ⟨rfl, _⟩ | ⟨g, cap, cur, rfl, _⟩ <;> rfl

/-- a row of another type stays while an owned row is written -/
theorem Own.besides {k : IntKind} {e te base n : Nat} {w w' : World} {v v' : Value} {xs : List Int} {vs : List Value} (h : Own k e base w v xs) (hr : w.ownsRow base te 1 v' n vs) (hne : e ≠ te) (hg : w.grownBy w' v'.ownBlock) : Own k e base w' v xs := by
  refine World.ownsRow.kept h hg ?_
  rcases h.2 with ⟨rfl, _⟩ | ⟨g, cap, cur, rfl, _, hh, _⟩
  · exact .inl rfl
  · refine .inr fun hrow => ?_
    rcases hr.2 with ⟨rfl, _⟩ | ⟨g', cap', cur', rfl, _, hh', _⟩
    · simp [Value.ownBlock] at hrow
    · simp [Value.ownBlock] at hrow
      subst hrow
      rw [hh] at hh'
      simp at hh'
      exact hne hh'.2

/-- append(dst, u): u a slice of bytes of the call's own -/
theorem wpList_appRow {P : Program} (w : World) {ops : Array Oper} {rest : List Oper} {o : Oper} {a : Act} {Q : Exit → Act → World → Prop} (hgd : o.guard = none) (s x : Operand) (t : TypeId)
    (ho : o.op = .call { callee := .builtin .append, args := #[s, x], argTypes := #[t, t] })
    (base te tb : Nat) (hne : tb ≠ te) (bytes : Nat) (ht : P.underlying t = some (.slice te)) (hinfo : (P.info? te).map (fun i => (i.zero, i.size, i.bytes)) = some (some (.slice none 0 0), 1, bytes))
    (v : Value) (xss : List (List Int)) (hs : a.eval s = v) (hown : OwnRows te tb base w v xss) (g : Nat) (u : Value) (ys : List Int) (hx : a.eval x = .slice (some ⟨g, 0, none⟩) 1 1) (hc : w.cell? ⟨g, 0, none⟩ = some u) (hu : Own .u8 tb base w u ys)
    (h63 : xss.length + 1 ≤ maxLen) (hbytes : (xss.length + 1) * bytes ≤ 140737488355328) (hbase : base ≤ w.heap.size)
    (h : ∀ v' w', OwnRows te tb base w' v' (xss ++ [ys]) → Below base w w' → wpList P ops Q rest (a.put o.dst v') w') : wpList P ops Q (o :: rest) a w := by
  obtain ⟨i, hi, hz0, hz1, hz2⟩ := info_parts hinfo
  obtain ⟨vs, h1, h2, h3⟩ := hown
  refine wpList_append_own w hgd s x t ho base te i (.slice none 0 0) 1 bytes ht hi hz0 hz1 hz2 rfl (by decide) v vs.length vs hs h2 ⟨g, 0, none⟩ 1 1 [u] hx (by simp) ?_ ?_ (by rw [h1]; exact h63) (by rw [h1]; exact hbytes) hbase ?_
  · intro j u' hj
    match j, hj with
    | 0, hj =>
      simp at hj
      subst hj
      simpa [Addr.add] using hc
    | j + 1, hj => simp at hj
  · intro u' hu'
    simp at hu'
    subst hu'
    exact hu.oneCell
  · intro v' w' hown' hg _
    have hB : Below base w w' := (Below.refl base w).grown hg hbase (fun k hk => (World.ownsRow.lt h2 k hk).1)
    refine h v' w' ⟨vs ++ [u], by simp [h1], by simpa using hown', fun j hj => ?_⟩ hB
    simp at hj
    rcases Nat.lt_or_ge j xss.length with hl | hl
    · have := (h3 j hl).besides h2 hne hg
      simpa [List.getD_eq_getElem?_getD, List.getElem?_append_left hl, List.getElem?_append_left (show j < vs.length by omega)] using this
    · obtain rfl : j = xss.length := by omega
      have := hu.besides h2 hne hg
      simpa [List.getD_eq_getElem?_getD, ← h1] using this

def eqR (xss yss : List (List Int)) : Bool := decide (xss = yss)
theorem eqR_iff {xss yss : List (List Int)} : eqR xss yss = true ↔ xss = yss := by simp [eqR]
theorem eqR_self (xss : List (List Int)) : eqR xss xss = true := eqR_iff.2 rfl

theorem Try.infoRow : (Try.prog.info? 25).map (fun i => (i.zero, i.size, i.bytes)) = some (some (.slice none 0 0), 1, 24) := by kernel_rfl

end Go.Proofs.Ytkjhbfcblnbkfaa
