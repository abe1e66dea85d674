/- Several texts in one: LawTwice8, LawExact8, LawStays8, LawParts8, Dec8g, Grid, Grid2, SetsSpec, SetsAt, RefSets1, RefSets2, SetsMath. -/
import Derived.Test.YtimbchkoomjhkaaPk16
import Derived.Test.YtimbchkoomjhkaaPk12
import Derived.Test.YtimbchkoomjhkaaPk18
import Derived.Test.YtimbchkoomjhkaaPk25
import Derived.Test.YtimbchkoomjhkaaPk20
import Derived.Test.YtimbchkoomjhkaaPk1
/-! LawTwice8 -/
namespace Go.Proofs.Ytimbchkoomjhkaa
open Go.RowKit

end Go.Proofs.Ytimbchkoomjhkaa

/-! LawExact8 -/
namespace Go.Proofs.Ytimbchkoomjhkaa
open Go.RowKit

end Go.Proofs.Ytimbchkoomjhkaa

/-! LawStays8 -/
namespace Go.Proofs.Ytimbchkoomjhkaa
open Go.RowKit

theorem plain_canon {k : Bool} {x : Int} (h : PlainS k x) : canonS x = [] := Classical.byContradiction fun hc => hc (by rw [← step_canon (k := k) hc]; exact h.2)
theorem plain_compat {x : Int} (h : PlainS true x) : mapS tabCompat x = [] := by
  have hc := plain_canon h
  have := h.2
  unfold stepS at this
  rw [hc] at this
  exact this
theorem i64_of {x : Int} (h : inI x = true) : I64n x := by
  unfold inI at h
  have h2 := of_decide_eq_true h
  exact h2

end Go.Proofs.Ytimbchkoomjhkaa

/-! LawParts8 -/
namespace Go.Proofs.Ytimbchkoomjhkaa
open Go.RowKit

set_option maxRecDepth 1000000 in
theorem rows_off : (tabCanon.all fun r => decide (r.f < 44032 ∨ 55203 < r.f)) = true ∧ (tabCompat.all fun m => decide (m.f < 44032 ∨ 55203 < m.f)) = true := by decide +kernel
theorem canon_nosplit {c : Int} (h : canonS c ≠ []) : splitS c = [] := by
  obtain ⟨r, hr, rfl⟩ := canon_key h
  have := List.all_eq_true.1 rows_off.1 r hr
  simp only [decide_eq_true_eq] at this
  exact splitS_out (by omega)
theorem compat_nosplit {c : Int} (h : mapS tabCompat c ≠ []) : splitS c = [] := by
  obtain ⟨m, hm, rfl⟩ := map_key h
  have := List.all_eq_true.1 rows_off.2 m hm
  simp only [decide_eq_true_eq] at this
  exact splitS_out (by omega)
theorem i64_of8 {x : Int} (h : inI x = true) : I64n x := by
  unfold inI at h
  have h2 := of_decide_eq_true h
  exact h2
theorem step_inI {k : Bool} {c : Int} (hi : inI c = true) (hs : splitS c = []) : (stepS k c).all inI = true := by
  rw [List.all_eq_true]
  intro x hx
  have := (deep_step (deep_all (k := k) hi) hs).2 x hx
  rw [deepB, Bool.and_eq_true] at this
  exact this.1
theorem compat_step {c : Int} (hca : canonS c = []) : stepS true c = mapS tabCompat c := by
  unfold stepS
  rw [hca]
  rfl
theorem compat_one {c : Int} (hi : inI c = true) (hca : canonS c = []) (hne : mapS tabCompat c ≠ []) : oneS true c = allS true (mapS tabCompat c) := by
  rw [← compat_step hca]
  exact one_parts hi (compat_nosplit hne) (by rw [compat_step hca]; exact hne)
theorem compat_inI {c : Int} (hi : inI c = true) (hca : canonS c = []) (hne : mapS tabCompat c ≠ []) : (mapS tabCompat c).all inI = true := by
  rw [← compat_step hca]
  exact step_inI hi (compat_nosplit hne)
theorem compat_len {c : Int} (hca : canonS c = []) : (mapS tabCompat c).length ≤ 3 := by
  rw [← compat_step hca]
  exact stepS_len true c
theorem split_inI (c : Int) : (splitS c).all inI = true := by
  rw [List.all_eq_true]
  intro x hx
  obtain ⟨h0, h1⟩ := split_letters x hx
  exact decide_eq_true ⟨by omega, by omega⟩
theorem split_len (c : Int) : (splitS c).length ≤ 3 := by
  unfold splitS partsN
  split
  · split <;> simp
  · simp

end Go.Proofs.Ytimbchkoomjhkaa

/-! Dec8g -/
namespace Go.Proofs.Ytimbchkoomjhkaa
open Go.RowKit Go.Shelf

theorem mapZ_none {f : Int → List Int} {Z : Nat → Prop} {M : Nat} {W : World} (h : W.heap[M]? = some (.map #[] 0)) : MapZ f Z M W := ⟨_, _, h, fun e he => by simp at he⟩
theorem Sl.slZ {w : World} {v : Value} {xs : List Int} (h : Sl .i64 w v xs) : SlZ (fun b => ∃ o : Obj, w.heap[b]? = some o ∧ o.isCells = true) w v xs := by
  refine ⟨h, fun a n c e h0 => ?_⟩
  obtain ⟨a1, cap, hv, hl, hm, hh⟩ := h
  rw [e] at hv
  injection hv with e1 e2 e3
  rcases hh with hh | ⟨b, off, ha, hb, hc⟩
  · omega
  · rw [ha] at e1
    injection e1 with e1
    subst e1
    exact cells_of_cell (hc 0 h0)
theorem below_turned {M : Nat} {w w1 w2 w3 : World} (h1 : Below w.heap.size w w1) (hM : w.heap.size ≤ M) (hg : w1.grownBy w2 (some M)) (h3 : Below w.heap.size w2 w3) : Below w.heap.size w w3 :=
  (h1.grown hg h1.size (fun r e => by cases e; exact hM)).trans h3

set_option maxHeartbeats 1000000 in
theorem all8 (k : Bool) (v : Value) (s : List Int) (w : World) (hs : Sl .i64 w v s) (hi : s.all inI = true) (hl : s.length ≤ 1000000) : Calls Try.prog 32 #[v, .bool k] w fun e w' => ∃ x, e = .returned x ∧ Own .i64 3 w.heap.size w' x (allS k s) ∧ Below w.heap.size w w' := by
  have hlen : (allS k s).length ≤ s.length * (3 ^ 4 * 3) := each_len k 4 s
  have HD := hid (fun x (hx : x ∈ s) => deep_five (k := k) (List.all_eq_true.1 hi x hx))
  have HS := hid hs
  obtain ⟨a, cap, hv⟩ := hs.form
  subst hv
  clear hs
  go_enter Try.func32, Try.ntmps32
  go_wp2_with (first
    | (go_at_call 61; refine (newDec8 k _).mono ?_; rintro e w1 ⟨M, rfl, hM, hm1, hb1⟩; have HM1 := hid hm1; have HB1 := hid hb1; have HS1 := hid (Sl.slZ (HS.out.below hb1)); clear hm1 hb1)
    | (go_at_call 62; refine (each8 k M _ s w1 (fun b => ∃ o : Obj, w1.heap[b]? = some o ∧ o.isCells = true) (fun _ h => h) HS1.out).mono ?_; rintro e w2 ⟨rfl, hi2, hb2⟩; have HB2 := hid hb2; have HI2 := hid hi2; clear hb2 hi2)
    | (go_at_call 60; refine (collect8 k M 5 w.heap.size _ (allS k s) w2 _ zn_cells (MapZ.below (fun _ h => h) (mapZ_none HM1.out) HB2.out) (.inr ⟨_, _, s, rfl, HI2.out, rfl, HD.out⟩) (Nat.le_trans HB1.out.size HB2.out.size) hM (by omega)).mono ?_; rintro e w3 ⟨v3, rfl, ho3, hb3⟩; have HO3 := hid ho3; have HB3 := hid hb3; clear ho3 hb3))
  go_ret
  exact ⟨_, rfl, HO3.out.mono (Nat.le_trans HB1.out.size HB2.out.size), below_turned HB1.out hM (grown_some M HB2.out) HB3.out⟩
theorem allDec : DAllOk := fun k v s w hs hi hl => all8 k v s w hs hi hl
end Go.Proofs.Ytimbchkoomjhkaa

/-! Grid -/
namespace Go.Proofs.Ytimbchkoomjhkaa
open Go.RowKit

/-- The value v is a slice that holds the values vs. -/
def Sv (w : World) (v : Value) (vs : List Value) : Prop :=
  ∃ a cap, v = .slice a vs.length cap ∧ vs.length ≤ cap ∧ cap ≤ maxLen ∧
    (cap = 0 ∨ ∃ b off, a = some ⟨b, off, none⟩ ∧ (0 < vs.length → b < w.heap.size) ∧ ∀ i, i < vs.length → w.cell? ⟨b, off + i, none⟩ = some (vs.getD i undef))

/-- The value v is a slice of slices of bytes. -/
def Rws (w : World) (v : Value) (xss : List (List Int)) : Prop :=
  ∃ vs, vs.length = xss.length ∧ Sv w v vs ∧ ∀ i, i < xss.length → Sl .u8 w (vs.getD i undef) (xss.getD i [])

/-- .. that the call itself made, each row too -/
def OwnRows (te tb base : Nat) (w : World) (v : Value) (xss : List (List Int)) : Prop :=
  ∃ vs, vs.length = xss.length ∧ w.ownsRow base te 1 v vs.length vs ∧ ∀ i, i < xss.length → Own .u8 tb base w (vs.getD i undef) (xss.getD i [])

theorem Sv.below {w w' : World} {v : Value} {vs : List Value} (h : Sv w v vs) (hb : Below w.heap.size w w') : Sv w' v vs := by
  obtain ⟨a, cap, hv, hl, hm, h⟩ := h
  refine ⟨a, cap, hv, hl, hm, ?_⟩
  rcases h with h | ⟨b, off, ha, hbb, hc⟩
  · exact .inl h
  · exact .inr ⟨b, off, ha, fun h0 => Nat.lt_of_lt_of_le (hbb h0) hb.size, fun i hi => (hb.cell (p := ⟨b, off + i, none⟩) (hbb (by omega))).trans (hc i hi)⟩
theorem Sv.of_row {base te : Nat} {w : World} {v : Value} {vs : List Value} (h : w.ownsRow base te 1 v vs.length vs) : Sv w v vs := by
  obtain ⟨h1, h2⟩ := h
  rcases h2 with ⟨rfl, hn⟩ | ⟨g, cap, cur, rfl, hb, hg, hnc, hcm, hcs, ht⟩
  · exact ⟨none, 0, by rw [hn], by omega, by unfold maxLen; omega, .inl rfl⟩
  · refine ⟨some ⟨g, 0, none⟩, cap, rfl, hnc, hcm, .inr ⟨g, 0, rfl, fun _ => (Array.getElem?_eq_some_iff.1 hg).1, fun i hi => ?_⟩⟩
    rw [cell_of_row w g (0 + i) cur te (0, 0) hg]
    have : (cur.toList.take (vs.length * 1))[i]? = vs[i]? := by rw [ht]
    rw [List.getElem?_take, if_pos (by omega)] at this
    simp only [Nat.zero_add]
    rw [← Array.getElem?_toList, this, List.getD_eq_getElem?_getD, List.getElem?_eq_getElem hi]
    rfl
theorem Rws.below {w w' : World} {v : Value} {xss : List (List Int)} (h : Rws w v xss) (hb : Below w.heap.size w w') : Rws w' v xss := by
  obtain ⟨vs, h1, h2, h3⟩ := h
  exact ⟨vs, h1, h2.below hb, fun i hi => (h3 i hi).below hb⟩
theorem OwnRows.rws {te tb base : Nat} {w : World} {v : Value} {xss : List (List Int)} (h : OwnRows te tb base w v xss) : Rws w v xss := by
  obtain ⟨vs, h1, h2, h3⟩ := h
  exact ⟨vs, h1, Sv.of_row h2, fun i hi => (h3 i hi).sl⟩
theorem Rws.drewN {w : World} {v : Value} {xss : List (List Int)} (h : Rws w v xss) (n : Nat) : Rws (w.drewN n) v xss := h

theorem ownsRow_below {base te n : Nat} {w w' : World} {v : Value} {vs : List Value} (h : w.ownsRow base te 1 v n vs) (hb : Below w.heap.size w w') : w'.ownsRow base te 1 v n vs := by
  obtain ⟨h1, h2⟩ := h
  refine ⟨h1, ?_⟩
  rcases h2 with h2 | ⟨g, cap, cur, hv, hg, hh, r⟩
  · exact .inl h2
  · exact .inr ⟨g, cap, cur, hv, hg, by rw [hb.block g (Array.getElem?_eq_some_iff.1 hh).1]; exact hh, r⟩
theorem OwnRows.below {te tb base : Nat} {w w' : World} {v : Value} {xss : List (List Int)} (h : OwnRows te tb base w v xss) (hb : Below w.heap.size w w') : OwnRows te tb base w' v xss := by
  obtain ⟨vs, h1, h2, h3⟩ := h
  exact ⟨vs, h1, ownsRow_below h2 hb, fun i hi => (h3 i hi).below hb⟩
theorem ownsRow_mono {base base' te n : Nat} {w : World} {v : Value} {vs : List Value} (h : w.ownsRow base te 1 v n vs) (hb : base' ≤ base) : w.ownsRow base' te 1 v n vs := by
  obtain ⟨h1, h2⟩ := h
  refine ⟨h1, ?_⟩
  rcases h2 with h2 | ⟨g, cap, cur, hv, hg, r⟩
  · exact .inl h2
  · exact .inr ⟨g, cap, cur, hv, by omega, r⟩
theorem OwnRows.mono {te tb base base' : Nat} {w : World} {v : Value} {xss : List (List Int)} (h : OwnRows te tb base w v xss) (hb : base' ≤ base) : OwnRows te tb base' w v xss := by
  obtain ⟨vs, h1, h2, h3⟩ := h
  exact ⟨vs, h1, ownsRow_mono h2 hb, fun i hi => (h3 i hi).mono hb⟩
theorem OwnRows.nil (te tb base : Nat) (w : World) : OwnRows te tb base w (.slice none 0 0) [] := ⟨[], rfl, World.ownsRow_nil _ _ _ _, fun i hi => by simp at hi⟩

theorem Own.oneCell {k : IntKind} {e base : Nat} {w : World} {v : Value} {xs : List Int} (h : Own k e base w v xs) : v.oneCell' = true := by
  rcases h.2 with ⟨rfl, _⟩ | ⟨g, cap, cur, rfl, _⟩ <;> rfl

/-- a row of another type stays while an owned row is written -/
theorem Own.besides {k : IntKind} {e te base n : Nat} {w w' : World} {v v' : Value} {xs : List Int} {vs : List Value} (h : Own k e base w v xs) (hr : w.ownsRow base te 1 v' n vs) (hne : e ≠ te) (hg : w.grownBy w' v'.ownBlock) : Own k e base w' v xs := by
  refine World.ownsRow.kept h hg ?_
  rcases h.2 with ⟨rfl, _⟩ | ⟨g, cap, cur, rfl, _, hh, _⟩
  · exact .inl rfl
  · refine .inr fun hrow => ?_
    rcases hr.2 with ⟨rfl, _⟩ | ⟨g', cap', cur', rfl, _, hh', _⟩
    · simp [Value.ownBlock] at hrow
    · simp [Value.ownBlock] at hrow
      subst hrow
      rw [hh] at hh'
      simp at hh'
      exact hne hh'.2

/-- append(dst, u): u a slice of bytes of the call's own -/
theorem wpList_appRow {P : Program} (w : World) {ops : Array Oper} {rest : List Oper} {o : Oper} {a : Act} {Q : Exit → Act → World → Prop} (hgd : o.guard = none) (s x : Operand) (t : TypeId)
    (ho : o.op = .call { callee := .builtin .append, args := #[s, x], argTypes := #[t, t] })
    (base te tb : Nat) (hne : tb ≠ te) (bytes : Nat) (ht : P.underlying t = some (.slice te)) (hinfo : (P.info? te).map (fun i => (i.zero, i.size, i.bytes)) = some (some (.slice none 0 0), 1, bytes))
    (v : Value) (xss : List (List Int)) (hs : a.eval s = v) (hown : OwnRows te tb base w v xss) (g : Nat) (u : Value) (ys : List Int) (hx : a.eval x = .slice (some ⟨g, 0, none⟩) 1 1) (hc : w.cell? ⟨g, 0, none⟩ = some u) (hu : Own .u8 tb base w u ys)
    (h63 : xss.length + 1 ≤ maxLen) (hbytes : (xss.length + 1) * bytes ≤ 140737488355328) (hbase : base ≤ w.heap.size)
    (h : ∀ v' w', OwnRows te tb base w' v' (xss ++ [ys]) → Below base w w' → wpList P ops Q rest (a.put o.dst v') w') : wpList P ops Q (o :: rest) a w := by
  obtain ⟨i, hi, hz0, hz1, hz2⟩ := info_parts hinfo
  obtain ⟨vs, h1, h2, h3⟩ := hown
  refine wpList_append_own w hgd s x t ho base te i (.slice none 0 0) 1 bytes ht hi hz0 hz1 hz2 rfl (by decide) v vs.length vs hs h2 ⟨g, 0, none⟩ 1 1 [u] hx (by simp) ?_ ?_ (by rw [h1]; exact h63) (by rw [h1]; exact hbytes) hbase ?_
  · intro j u' hj
    match j, hj with
    | 0, hj =>
      simp at hj
      subst hj
      simpa [Addr.add] using hc
    | j + 1, hj => simp at hj
  · intro u' hu'
    simp at hu'
    subst hu'
    exact hu.oneCell
  · intro v' w' hown' hg _
    have hB : Below base w w' := (Below.refl base w).grown hg hbase (fun k hk => (World.ownsRow.lt h2 k hk).1)
    refine h v' w' ⟨vs ++ [u], by simp [h1], by simpa using hown', fun j hj => ?_⟩ hB
    simp at hj
    rcases Nat.lt_or_ge j xss.length with hl | hl
    · have := (h3 j hl).besides h2 hne hg
      simpa [List.getD_eq_getElem?_getD, List.getElem?_append_left hl, List.getElem?_append_left (show j < vs.length by omega)] using this
    · obtain rfl : j = xss.length := by omega
      have := hu.besides h2 hne hg
      simpa [List.getD_eq_getElem?_getD, ← h1] using this

def eqR (xss yss : List (List Int)) : Bool := decide (xss = yss)
theorem eqR_iff {xss yss : List (List Int)} : eqR xss yss = true ↔ xss = yss := by simp [eqR]
theorem eqR_self (xss : List (List Int)) : eqR xss xss = true := eqR_iff.2 rfl

end Go.Proofs.Ytimbchkoomjhkaa

/-! Grid2 -/
namespace Go.Proofs.Ytimbchkoomjhkaa
open Go.RowKit

theorem ext_rows {xs ys : List (List Int)} (hl : xs.length = ys.length) (h : ∀ i, i < xs.length → xs.getD i [] = ys.getD i []) : xs = ys := by
  apply List.ext_getElem hl
  intro i h1 h2
  have := h i h1
  simpa [List.getD_eq_getElem?_getD, List.getElem?_eq_getElem h1, List.getElem?_eq_getElem h2] using this

end Go.Proofs.Ytimbchkoomjhkaa

/-! SetsSpec -/
namespace Go.Proofs.Ytimbchkoomjhkaa

/-- -1 ahead, 0 the same, 1 behind -/
def cmpS : List Int → List Int → Int
  | [], [] => 0
  | [], _ :: _ => -1
  | _ :: _, [] => 1
  | x :: xs, y :: ys => if x < y then -1 else if y < x then 1 else cmpS xs ys

theorem cmpS_range : ∀ a b : List Int, cmpS a b = -1 ∨ cmpS a b = 0 ∨ cmpS a b = 1
  | [], [] => .inr (.inl rfl)
  | [], _ :: _ => .inl rfl
  | _ :: _, [] => .inr (.inr rfl)
  | x :: xs, y :: ys => by
    rw [cmpS]
    split
    · exact .inl rfl
    · split
      · exact .inr (.inr rfl)
      · exact cmpS_range xs ys
theorem cmpS_eq : ∀ a b : List Int, cmpS a b = 0 ↔ a = b
  | [], [] => by simp [cmpS]
  | [], _ :: _ => by simp [cmpS]
  | _ :: _, [] => by simp [cmpS]
  | x :: xs, y :: ys => by
    rw [cmpS]
    split
    · simp; omega
    · split
      · simp; omega
      · rw [cmpS_eq xs ys, List.cons.injEq]
        constructor
        · intro h; exact ⟨by omega, h⟩
        · intro h; exact h.2
theorem cmpS_turn : ∀ a b : List Int, cmpS b a = -cmpS a b
  | [], [] => rfl
  | [], _ :: _ => rfl
  | _ :: _, [] => rfl
  | x :: xs, y :: ys => by
    rw [cmpS, cmpS]
    by_cases h1 : x < y
    · rw [if_neg (by omega), if_pos h1, if_pos h1]; rfl
    · by_cases h2 : y < x
      · rw [if_pos h2, if_neg h1, if_pos h2]
      · rw [if_neg h2, if_neg h1, if_neg h1, if_neg h2, cmpS_turn xs ys]
theorem cmpS_trans : ∀ a b c : List Int, cmpS a b ≤ 0 → cmpS b c ≤ 0 → cmpS a c ≤ 0 ∧ (cmpS a b < 0 → cmpS a c < 0) ∧ (cmpS b c < 0 → cmpS a c < 0)
  | [], [], [] => by simp [cmpS]
  | [], [], _ :: _ => by simp [cmpS]
  | [], _ :: _, [] => by simp [cmpS]
  | [], _ :: _, _ :: _ => by simp [cmpS]
  | _ :: _, [], _ => by simp [cmpS]
  | _ :: _, _ :: _, [] => by simp [cmpS]
  | x :: xs, y :: ys, z :: zs => by
    intro h1 h2
    have ih := cmpS_trans xs ys zs
    have e1 : cmpS (x :: xs) (y :: ys) = if x < y then -1 else if y < x then 1 else cmpS xs ys := by rw [cmpS]
    have e2 : cmpS (y :: ys) (z :: zs) = if y < z then -1 else if z < y then 1 else cmpS ys zs := by rw [cmpS]
    have e3 : cmpS (x :: xs) (z :: zs) = if x < z then -1 else if z < x then 1 else cmpS xs zs := by rw [cmpS]
    generalize cmpS (x :: xs) (y :: ys) = p at *
    generalize cmpS (y :: ys) (z :: zs) = q at *
    generalize cmpS (x :: xs) (z :: zs) = r at *
    split at e1
    · split at e2
      · rw [if_pos (by omega)] at e3; omega
      · split at e2
        · omega
        · rw [if_pos (by omega)] at e3; omega
    · split at e1
      · omega
      · split at e2
        · rw [if_pos (by omega)] at e3; omega
        · split at e2
          · omega
          · rw [if_neg (by omega), if_neg (by omega)] at e3
            rw [e1] at h1 ⊢
            rw [e2] at h2 ⊢
            rw [e3]
            exact ih h1 h2
theorem cmpS_pre : ∀ (a b c : List Int), cmpS (a ++ b) (a ++ c) = cmpS b c
  | [], _, _ => rfl
  | x :: a, b, c => by
    rw [List.cons_append, List.cons_append, cmpS, if_neg (by omega), if_neg (by omega), cmpS_pre a b c]

/-- no one is ahead of the one before it -/
def sortedS : List (List Int) → Bool
  | [] => true
  | [_] => true
  | a :: b :: r => decide (0 ≤ cmpS b a) && sortedS (b :: r)

theorem sortedS_cons {a : List Int} {l : List (List Int)} (h : sortedS (a :: l) = true) : sortedS l = true ∧ ∀ x ∈ l, cmpS a x ≤ 0 := by
  induction l generalizing a with
  | nil => exact ⟨rfl, fun _ hx => by cases hx⟩
  | cons b r ih =>
    simp only [sortedS, Bool.and_eq_true, decide_eq_true_eq] at h
    obtain ⟨h1, h2⟩ := h
    have ht := cmpS_turn b a
    refine ⟨h2, fun x hx => ?_⟩
    rcases List.mem_cons.1 hx with rfl | hx
    · omega
    · exact (cmpS_trans a b x (by omega) ((ih h2).2 x hx)).1
theorem sortedS_mk {a : List Int} {l : List (List Int)} (h : sortedS l = true) (h1 : ∀ x ∈ l, cmpS a x ≤ 0) : sortedS (a :: l) = true := by
  match l, h, h1 with
  | [], _, _ => rfl
  | b :: r, h, h1 =>
    simp only [sortedS, Bool.and_eq_true, decide_eq_true_eq]
    have := cmpS_turn a b
    exact ⟨by have := h1 b (List.mem_cons_self ..); omega, h⟩

/-- rows of the same elements, both in order, are the same -/
theorem sorted_same : ∀ (l m : List (List Int)), l.Perm m → sortedS l = true → sortedS m = true → l = m
  | [], m, hp, _, _ => (List.Perm.nil_eq hp)
  | a :: l, [], hp, _, _ => by have := hp.length_eq; simp at this
  | a :: l, b :: m, hp, h1, h2 => by
    have s1 := sortedS_cons h1
    have s2 := sortedS_cons h2
    have hab : a = b := by
      have ha : a ∈ b :: m := hp.mem_iff.1 (List.mem_cons_self ..)
      have hb : b ∈ a :: l := hp.mem_iff.2 (List.mem_cons_self ..)
      rcases List.mem_cons.1 ha with rfl | ha
      · rfl
      · rcases List.mem_cons.1 hb with hb | hb
        · exact hb.symm
        · have e1 := s2.2 a ha
          have e2 := s1.2 b hb
          have e3 := cmpS_turn a b
          exact (cmpS_eq a b).1 (by omega)
    subst hab
    rw [sorted_same l m (List.perm_cons a |>.1 hp) s1.1 s2.1]

end Go.Proofs.Ytimbchkoomjhkaa

/-! SetsAt -/
namespace Go.Proofs.Ytimbchkoomjhkaa

theorem cmpS_drop : ∀ (k : Nat) (xs ys : List Int), k ≤ xs.length → k ≤ ys.length → (∀ i, i < k → xs.getD i 0 = ys.getD i 0) → cmpS xs ys = cmpS (xs.drop k) (ys.drop k)
  | 0, _, _, _, _, _ => rfl
  | k + 1, [], _, h, _, _ => by simp at h
  | k + 1, _ :: _, [], _, h, _ => by simp at h
  | k + 1, x :: xs, y :: ys, h1, h2, h => by
    have h0 : x = y := by simpa using h 0 (by omega)
    subst h0
    rw [cmpS, if_neg (by omega), if_neg (by omega), List.drop_succ_cons, List.drop_succ_cons]
    exact cmpS_drop k xs ys (by simpa using h1) (by simpa using h2) fun i hi => by simpa using h (i + 1) (by omega)
theorem cmpS_head {k : Nat} {xs ys : List Int} (h1 : k < xs.length) (h2 : k < ys.length) (h : ∀ i, i < k → xs.getD i 0 = ys.getD i 0) :
    cmpS xs ys = if xs.getD k 0 < ys.getD k 0 then -1 else if ys.getD k 0 < xs.getD k 0 then 1 else cmpS (xs.drop (k + 1)) (ys.drop (k + 1)) := by
  rw [cmpS_drop k xs ys (by omega) (by omega) h, drop_getD (x := xs.getD k 0) rfl h1, drop_getD (x := ys.getD k 0) rfl h2, cmpS]
theorem cmpS_lt {k : Nat} {xs ys : List Int} (h1 : k < xs.length) (h2 : k < ys.length) (h : ∀ i, i < k → xs.getD i 0 = ys.getD i 0) (hl : xs.getD k 0 < ys.getD k 0) : cmpS xs ys = -1 := by
  rw [cmpS_head h1 h2 h, if_pos hl]
theorem cmpS_gt {k : Nat} {xs ys : List Int} (h1 : k < xs.length) (h2 : k < ys.length) (h : ∀ i, i < k → xs.getD i 0 = ys.getD i 0) (hl : ys.getD k 0 < xs.getD k 0) : cmpS xs ys = 1 := by
  rw [cmpS_head h1 h2 h, if_neg (by omega), if_pos hl]
theorem cmpS_end {k : Nat} {xs ys : List Int} (h1 : k ≤ xs.length) (h2 : k ≤ ys.length) (h : ∀ i, i < k → xs.getD i 0 = ys.getD i 0) (he : k = xs.length ∨ k = ys.length) :
    cmpS xs ys = if xs.length < ys.length then -1 else if ys.length < xs.length then 1 else 0 := by
  rw [cmpS_drop k xs ys h1 h2 h]
  have e1 : (xs.drop k).length = xs.length - k := List.length_drop
  have e2 : (ys.drop k).length = ys.length - k := List.length_drop
  generalize xs.drop k = p at e1 ⊢
  generalize ys.drop k = q at e2 ⊢
  match p, q with
  | [], [] => simp at e1 e2; rw [if_neg (by omega), if_neg (by omega)]; rfl
  | [], _ :: _ => simp at e1 e2; rw [if_pos (by omega)]; rfl
  | _ :: _, [] => simp at e1 e2; rw [if_neg (by omega), if_pos (by omega)]; rfl
  | _ :: _, _ :: _ => simp at e1 e2; omega

/-- no one of the first k is ahead of the one before it -/
theorem sortedS_iff : ∀ (l : List (List Int)), sortedS l = true ↔ ∀ i, 1 ≤ i → i < l.length → 0 ≤ cmpS (l.getD i []) (l.getD (i - 1) [])
  | [] => by simp [sortedS]
  | [a] => by simp [sortedS]; intro i h1 h2; omega
  | a :: b :: r => by
    rw [sortedS, Bool.and_eq_true, decide_eq_true_eq, sortedS_iff (b :: r)]
    constructor
    · rintro ⟨h0, h⟩ i h1 h2
      match i, h1, h2 with
      | 1, _, _ => simpa using h0
      | i + 2, _, h2 =>
        have := h (i + 1) (by omega) (by simpa using h2)
        simpa using this
    · intro h
      refine ⟨by simpa using h 1 (by omega) (by simp), fun i h1 h2 => ?_⟩
      have := h (i + 1) (by omega) (by simpa using h2)
      match i, h1 with
      | i + 1, _ => simpa using this
end Go.Proofs.Ytimbchkoomjhkaa

/-! RefSets1 -/
namespace Go.Proofs.Ytimbchkoomjhkaa
open Go.RowKit

theorem ret_i64 {a b : Int} (h : a = b) : Ending.returned (.int .i64 a) = .returned (.int .i64 b) := by rw [h]

end Go.Proofs.Ytimbchkoomjhkaa

/-! RefSets2 -/
namespace Go.Proofs.Ytimbchkoomjhkaa
open Go.RowKit

end Go.Proofs.Ytimbchkoomjhkaa

/-! SetsMath -/
namespace Go.Proofs.Ytimbchkoomjhkaa

def rowAt (l : List (List Int)) (i : Nat) : List Int := l.getD i []
/-- place i stands ahead of place j -/
def ilt (l : List (List Int)) (i j : Nat) : Prop := cmpS (rowAt l i) (rowAt l j) < 0 ∨ (cmpS (rowAt l i) (rowAt l j) = 0 ∧ i < j)
/-- p tells which of the first n stands where -/
def IsPl (l : List (List Int)) (n : Nat) (p : List Nat) : Prop := p.Perm (List.range n) ∧ p.Pairwise (ilt l)

theorem ilt_not {l : List (List Int)} {i j : Nat} (h : ilt l i j) : ¬ ilt l j i := by
  have := cmpS_turn (rowAt l i) (rowAt l j)
  unfold ilt at h ⊢
  omega
theorem ilt_tri {l : List (List Int)} {i j : Nat} (h : ¬ ilt l i j) (h2 : ¬ ilt l j i) : i = j := by
  have := cmpS_turn (rowAt l i) (rowAt l j)
  unfold ilt at h h2
  omega
theorem pair_unique {α : Type} {R : α → α → Prop} (ha : ∀ a b, R a b → ¬ R b a) : ∀ (p q : List α), p.Perm q → p.Pairwise R → q.Pairwise R → p = q
  | [], q, hp, _, _ => List.Perm.nil_eq hp
  | a :: p, [], hp, _, _ => by have := hp.length_eq; simp at this
  | a :: p, b :: q, hp, h1, h2 => by
    rw [List.pairwise_cons] at h1 h2
    have hab : a = b := by
      have hA : a ∈ b :: q := hp.mem_iff.1 (List.mem_cons_self ..)
      have hB : b ∈ a :: p := hp.mem_iff.2 (List.mem_cons_self ..)
      rcases List.mem_cons.1 hA with h | hA
      · exact h
      · rcases List.mem_cons.1 hB with h | hB
        · exact h.symm
        · exact absurd (h2.1 a hA) (ha _ _ (h1.1 b hB))
    subst hab
    rw [pair_unique ha p q (List.perm_cons a |>.1 hp) h1.2 h2.2]
theorem place_unique {l : List (List Int)} {n : Nat} {p q : List Nat} (hp : IsPl l n p) (hq : IsPl l n q) : p = q :=
  pair_unique (R := ilt l) (fun _ _ h => ilt_not h) p q (hp.1.trans hq.1.symm) hp.2 hq.2
theorem place_nil (l : List (List Int)) : IsPl l 0 [] := ⟨List.Perm.refl _, List.Pairwise.nil⟩
theorem IsPl.len {l : List (List Int)} {n : Nat} {p : List Nat} (h : IsPl l n p) : p.length = n := by
  have := h.1.length_eq
  simpa using this
theorem IsPl.lt {l : List (List Int)} {n : Nat} {p : List Nat} (h : IsPl l n p) {i : Nat} (hi : i ∈ p) : i < n := by
  simpa using h.1.mem_iff.1 hi
theorem IsPl.nodup {l : List (List Int)} {n : Nat} {p : List Nat} (h : IsPl l n p) : p.Nodup := h.1.nodup_iff.2 List.nodup_range

/-- one more: what stands behind k is behind it, what stands at k - 1 is not. -/
theorem place_put {l : List (List Int)} {n k : Nat} {p : List Nat} (h : IsPl l n p) (hk : k ≤ p.length) (hb : ∀ j, k ≤ j → j < p.length → cmpS (rowAt l n) (rowAt l (p.getD j 0)) < 0)
    (ha : k = 0 ∨ 0 ≤ cmpS (rowAt l n) (rowAt l (p.getD (k - 1) 0))) : IsPl l (n + 1) (p.take k ++ n :: p.drop k) := by
  have gd : ∀ j (hj : j < p.length), p.getD j 0 = p[j] := fun j hj => by rw [List.getD_eq_getElem?_getD, List.getElem?_eq_getElem hj]; rfl
  have hperm : (p.take k ++ n :: p.drop k).Perm (List.range (n + 1)) := by
    rw [List.range_succ]
    refine (List.perm_middle).trans ?_
    rw [List.take_append_drop]
    exact (List.Perm.cons n h.1).trans (List.perm_append_comm (l₁ := [n]) (l₂ := List.range n))
  refine ⟨hperm, ?_⟩
  have hpw := h.2
  rw [← List.take_append_drop k p, List.pairwise_append] at hpw
  obtain ⟨w1, w2, w3⟩ := hpw
  rw [List.pairwise_append]
  have hback : ∀ x ∈ p.drop k, ilt l n x := fun x hx => by
    obtain ⟨j, hj, rfl⟩ := List.getElem_of_mem hx
    have hj' : j < p.length - k := by simpa using hj
    have := hb (k + j) (by omega) (by omega)
    rw [gd (k + j) (by omega)] at this
    rw [List.getElem_drop]
    exact .inl this
  have hfront : ∀ x ∈ p.take k, ilt l x n := fun x hx => by
    obtain ⟨j, hj, rfl⟩ := List.getElem_of_mem hx
    have hj' : j < k := by
      have : j < min k p.length := by simpa using hj
      omega
    rw [List.getElem_take]
    have hlast : cmpS (rowAt l (p[k - 1]'(by omega))) (rowAt l n) ≤ 0 := by
      rcases ha with h0 | h0
      · omega
      · rw [gd (k - 1) (by omega)] at h0
        have := cmpS_turn (rowAt l n) (rowAt l (p[k - 1]'(by omega)))
        omega
    have hxn : p[j]'(by omega) < n := h.lt (List.getElem_mem _)
    have hle : cmpS (rowAt l (p[j]'(by omega))) (rowAt l (p[k - 1]'(by omega))) ≤ 0 := by
      rcases Nat.lt_or_ge j (k - 1) with hjk | hjk
      · have := List.pairwise_iff_getElem.1 h.2 j (k - 1) (by omega) (by omega) hjk
        unfold ilt at this
        omega
      · have e : j = k - 1 := by omega
        subst e
        have := (cmpS_eq (rowAt l (p[k - 1]'(by omega))) (rowAt l (p[k - 1]'(by omega)))).2 rfl
        omega
    have ht := cmpS_trans _ _ _ hle hlast
    unfold ilt
    omega
  exact ⟨w1, List.pairwise_cons.2 ⟨hback, w2⟩, fun x hx y hy => by
    rcases List.mem_cons.1 hy with rfl | hy
    · exact hfront x hx
    · exact w3 x hx y hy⟩

/-- the rows in their order -/
def rowsAt (l : List (List Int)) (p : List Nat) : List (List Int) := p.map (rowAt l)
theorem rowsAt_range (l : List (List Int)) : rowsAt l (List.range l.length) = l := by
  apply List.ext_getElem
  · simp [rowsAt]
  · intro i h1 h2
    simp [rowsAt, rowAt, h2]
theorem rows_perm {l : List (List Int)} {p : List Nat} (h : IsPl l l.length p) : (rowsAt l p).Perm l := by
  have := h.1.map (rowAt l)
  have e := rowsAt_range l
  unfold rowsAt at e ⊢
  rwa [e] at this
theorem rows_sorted {l : List (List Int)} : ∀ {p : List Nat}, p.Pairwise (ilt l) → sortedS (rowsAt l p) = true
  | [], _ => rfl
  | a :: p, h => by
    rw [List.pairwise_cons] at h
    refine sortedS_mk (rows_sorted h.2) fun x hx => ?_
    obtain ⟨b, hb, rfl⟩ := List.mem_map.1 hx
    have := h.1 b hb
    unfold ilt at this
    omega
theorem sorted_place : ∀ (l : List (List Int)), sortedS l = true → (List.range l.length).Pairwise (ilt l) := by
  intro l h
  rw [List.pairwise_iff_getElem]
  intro i j hi hj hij
  simp only [List.length_range] at hi hj
  simp only [List.getElem_range]
  have key : ∀ (l : List (List Int)), sortedS l = true → ∀ i j, i < j → j < l.length → cmpS (rowAt l i) (rowAt l j) ≤ 0 := by
    intro l
    induction l with
    | nil => intro _ i j _ hj; simp at hj
    | cons a r ih =>
      intro h i j hij hj
      have hc := sortedS_cons h
      match i, j, hij, hj with
      | 0, j + 1, _, hj =>
        refine hc.2 (rowAt (a :: r) (j + 1)) ?_
        have hj' : j < r.length := by simpa using hj
        show r.getD j [] ∈ r
        rw [List.getD_eq_getElem?_getD, List.getElem?_eq_getElem hj']
        exact List.getElem_mem hj'
      | i + 1, j + 1, hij, hj => exact ih hc.1 i j (by omega) (by simpa using hj)
  have := key l h i j hij hj
  unfold ilt
  omega
theorem sorted_rows {l : List (List Int)} {p : List Nat} (h : IsPl l l.length p) (hs : sortedS l = true) : rowsAt l p = l := by
  have := place_unique h ⟨List.Perm.refl _, sorted_place l hs⟩
  rw [this, rowsAt_range]
theorem rows_same {l m : List (List Int)} {p q : List Nat} (hp : IsPl l l.length p) (hq : IsPl m m.length q) (h : l.Perm m) : rowsAt l p = rowsAt m q :=
  sorted_same _ _ ((rows_perm hp).trans (h.trans (rows_perm hq).symm)) (rows_sorted hp.2) (rows_sorted hq.2)
theorem rotate_perm {α : Type} (l : List α) (k : Nat) : (l.drop k ++ l.take k).Perm l := by
  have := List.perm_append_comm (l₁ := l.drop k) (l₂ := l.take k)
  rwa [List.take_append_drop] at this
end Go.Proofs.Ytimbchkoomjhkaa
