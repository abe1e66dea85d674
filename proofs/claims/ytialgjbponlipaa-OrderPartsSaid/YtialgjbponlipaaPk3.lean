/- Several texts in one: Grid, Grid2, SetsSpec, SetsAt, RefSets1, RefSets2, TwinInts, SetsMath, RefSets3, StabMath, Grow, Over, Later. -/
import Derived.Test.YtialgjbponlipaaPk2
import Derived.Test.YtialgjbponlipaaPk1
import Derived.BigQuiet
/-! Grid -/
namespace Go.Proofs.Ytialgjbponlipaa
open Go.RowKit

/-- The value v is a slice that holds the values vs. -/
def Sv (w : World) (v : Value) (vs : List Value) : Prop :=
  ∃ a cap, v = .slice a vs.length cap ∧ vs.length ≤ cap ∧ cap ≤ maxLen ∧
    (cap = 0 ∨ ∃ b off, a = some ⟨b, off, none⟩ ∧ (0 < vs.length → b < w.heap.size) ∧ ∀ i, i < vs.length → w.cell? ⟨b, off + i, none⟩ = some (vs.getD i undef))

/-- The value v is a slice of slices of bytes. -/
def Rws (w : World) (v : Value) (xss : List (List Int)) : Prop :=
  ∃ vs, vs.length = xss.length ∧ Sv w v vs ∧ ∀ i, i < xss.length → Sl .u8 w (vs.getD i undef) (xss.getD i [])

/-- .. that the call itself made, each row too -/
def OwnRows (te tb base : Nat) (w : World) (v : Value) (xss : List (List Int)) : Prop :=
  ∃ vs, vs.length = xss.length ∧ w.ownsRow base te 1 v vs.length vs ∧ ∀ i, i < xss.length → Own .u8 tb base w (vs.getD i undef) (xss.getD i [])

theorem Sv.below {w w' : World} {v : Value} {vs : List Value} (h : Sv w v vs) (hb : Below w.heap.size w w') : Sv w' v vs := by
  obtain ⟨a, cap, hv, hl, hm, h⟩ := h
  refine ⟨a, cap, hv, hl, hm, ?_⟩
  rcases h with h | ⟨b, off, ha, hbb, hc⟩
  · exact .inl h
  · exact .inr ⟨b, off, ha, fun h0 => Nat.lt_of_lt_of_le (hbb h0) hb.size, fun i hi => (hb.cell (p := ⟨b, off + i, none⟩) (hbb (by omega))).trans (hc i hi)⟩
theorem Sv.of_row {base te : Nat} {w : World} {v : Value} {vs : List Value} (h : w.ownsRow base te 1 v vs.length vs) : Sv w v vs := by
  obtain ⟨h1, h2⟩ := h
  rcases h2 with ⟨rfl, hn⟩ | ⟨g, cap, cur, rfl, hb, hg, hnc, hcm, hcs, ht⟩
  · exact ⟨none, 0, by rw [hn], by omega, by unfold maxLen; omega, .inl rfl⟩
  · refine ⟨some ⟨g, 0, none⟩, cap, rfl, hnc, hcm, .inr ⟨g, 0, rfl, fun _ => (Array.getElem?_eq_some_iff.1 hg).1, fun i hi => ?_⟩⟩
    rw [cell_of_row w g (0 + i) cur te (0, 0) hg]
    have : (cur.toList.take (vs.length * 1))[i]? = vs[i]? := by rw [ht]
    rw [List.getElem?_take, if_pos (by omega)] at this
    simp only [Nat.zero_add]
    rw [← Array.getElem?_toList, this, List.getD_eq_getElem?_getD, List.getElem?_eq_getElem hi]
    rfl
theorem Rws.below {w w' : World} {v : Value} {xss : List (List Int)} (h : Rws w v xss) (hb : Below w.heap.size w w') : Rws w' v xss := by
  obtain ⟨vs, h1, h2, h3⟩ := h
  exact ⟨vs, h1, h2.below hb, fun i hi => (h3 i hi).below hb⟩
theorem OwnRows.rws {te tb base : Nat} {w : World} {v : Value} {xss : List (List Int)} (h : OwnRows te tb base w v xss) : Rws w v xss := by
  obtain ⟨vs, h1, h2, h3⟩ := h
  exact ⟨vs, h1, Sv.of_row h2, fun i hi => (h3 i hi).sl⟩
theorem Rws.drewN {w : World} {v : Value} {xss : List (List Int)} (h : Rws w v xss) (n : Nat) : Rws (w.drewN n) v xss := h

theorem ownsRow_below {base te n : Nat} {w w' : World} {v : Value} {vs : List Value} (h : w.ownsRow base te 1 v n vs) (hb : Below w.heap.size w w') : w'.ownsRow base te 1 v n vs := by
  obtain ⟨h1, h2⟩ := h
  refine ⟨h1, ?_⟩
  rcases h2 with h2 | ⟨g, cap, cur, hv, hg, hh, r⟩
  · exact .inl h2
  · exact .inr ⟨g, cap, cur, hv, hg, by rw [hb.block g (Array.getElem?_eq_some_iff.1 hh).1]; exact hh, r⟩
theorem OwnRows.below {te tb base : Nat} {w w' : World} {v : Value} {xss : List (List Int)} (h : OwnRows te tb base w v xss) (hb : Below w.heap.size w w') : OwnRows te tb base w' v xss := by
  obtain ⟨vs, h1, h2, h3⟩ := h
  exact ⟨vs, h1, ownsRow_below h2 hb, fun i hi => (h3 i hi).below hb⟩
theorem ownsRow_mono {base base' te n : Nat} {w : World} {v : Value} {vs : List Value} (h : w.ownsRow base te 1 v n vs) (hb : base' ≤ base) : w.ownsRow base' te 1 v n vs := by
  obtain ⟨h1, h2⟩ := h
  refine ⟨h1, ?_⟩
  rcases h2 with h2 | ⟨g, cap, cur, hv, hg, r⟩
  · exact .inl h2
  · exact .inr ⟨g, cap, cur, hv, by omega, r⟩
theorem OwnRows.mono {te tb base base' : Nat} {w : World} {v : Value} {xss : List (List Int)} (h : OwnRows te tb base w v xss) (hb : base' ≤ base) : OwnRows te tb base' w v xss := by
  obtain ⟨vs, h1, h2, h3⟩ := h
  exact ⟨vs, h1, ownsRow_mono h2 hb, fun i hi => (h3 i hi).mono hb⟩
theorem OwnRows.nil (te tb base : Nat) (w : World) : OwnRows te tb base w (.slice none 0 0) [] := ⟨[], rfl, World.ownsRow_nil _ _ _ _, fun i hi => by simp at hi⟩

theorem Own.oneCell {k : IntKind} {e base : Nat} {w : World} {v : Value} {xs : List Int} (h : Own k e base w v xs) : v.oneCell' = true := by
  rcases h.2 with ⟨rfl, _⟩ | ⟨g, cap, cur, rfl, _⟩ <;> rfl

/-- a row of another type stays while an owned row is written -/
theorem Own.besides {k : IntKind} {e te base n : Nat} {w w' : World} {v v' : Value} {xs : List Int} {vs : List Value} (h : Own k e base w v xs) (hr : w.ownsRow base te 1 v' n vs) (hne : e ≠ te) (hg : w.grownBy w' v'.ownBlock) : Own k e base w' v xs := by
  refine World.ownsRow.kept h hg ?_
  rcases h.2 with ⟨rfl, _⟩ | ⟨g, cap, cur, rfl, _, hh, _⟩
  · exact .inl rfl
  · refine .inr fun hrow => ?_
    rcases hr.2 with ⟨rfl, _⟩ | ⟨g', cap', cur', rfl, _, hh', _⟩
    · simp [Value.ownBlock] at hrow
    · simp [Value.ownBlock] at hrow
      subst hrow
      rw [hh] at hh'
      simp at hh'
      exact hne hh'.2

/-- append(dst, u): u a slice of bytes of the call's own -/
theorem wpList_appRow {P : Program} (w : World) {ops : Array Oper} {rest : List Oper} {o : Oper} {a : Act} {Q : Exit → Act → World → Prop} (hgd : o.guard = none) (s x : Operand) (t : TypeId)
    (ho : o.op = .call { callee := .builtin .append, args := #[s, x], argTypes := #[t, t] })
    (base te tb : Nat) (hne : tb ≠ te) (bytes : Nat) (ht : P.underlying t = some (.slice te)) (hinfo : (P.info? te).map (fun i => (i.zero, i.size, i.bytes)) = some (some (.slice none 0 0), 1, bytes))
    (v : Value) (xss : List (List Int)) (hs : a.eval s = v) (hown : OwnRows te tb base w v xss) (g : Nat) (u : Value) (ys : List Int) (hx : a.eval x = .slice (some ⟨g, 0, none⟩) 1 1) (hc : w.cell? ⟨g, 0, none⟩ = some u) (hu : Own .u8 tb base w u ys)
    (h63 : xss.length + 1 ≤ maxLen) (hbytes : (xss.length + 1) * bytes ≤ 140737488355328) (hbase : base ≤ w.heap.size)
    (h : ∀ v' w', OwnRows te tb base w' v' (xss ++ [ys]) → Below base w w' → wpList P ops Q rest (a.put o.dst v') w') : wpList P ops Q (o :: rest) a w := by
  obtain ⟨i, hi, hz0, hz1, hz2⟩ := info_parts hinfo
  obtain ⟨vs, h1, h2, h3⟩ := hown
  refine wpList_append_own w hgd s x t ho base te i (.slice none 0 0) 1 bytes ht hi hz0 hz1 hz2 rfl (by decide) v vs.length vs hs h2 ⟨g, 0, none⟩ 1 1 [u] hx (by simp) ?_ ?_ (by rw [h1]; exact h63) (by rw [h1]; exact hbytes) hbase ?_
  · intro j u' hj
    match j, hj with
    | 0, hj =>
      simp at hj
      subst hj
      simpa [Addr.add] using hc
    | j + 1, hj => simp at hj
  · intro u' hu'
    simp at hu'
    subst hu'
    exact hu.oneCell
  · intro v' w' hown' hg _
    have hB : Below base w w' := (Below.refl base w).grown hg hbase (fun k hk => (World.ownsRow.lt h2 k hk).1)
    refine h v' w' ⟨vs ++ [u], by simp [h1], by simpa using hown', fun j hj => ?_⟩ hB
    simp at hj
    rcases Nat.lt_or_ge j xss.length with hl | hl
    · have := (h3 j hl).besides h2 hne hg
      simpa [List.getD_eq_getElem?_getD, List.getElem?_append_left hl, List.getElem?_append_left (show j < vs.length by omega)] using this
    · obtain rfl : j = xss.length := by omega
      have := hu.besides h2 hne hg
      simpa [List.getD_eq_getElem?_getD, ← h1] using this

def eqR (xss yss : List (List Int)) : Bool := decide (xss = yss)
theorem eqR_iff {xss yss : List (List Int)} : eqR xss yss = true ↔ xss = yss := by simp [eqR]
theorem eqR_self (xss : List (List Int)) : eqR xss xss = true := eqR_iff.2 rfl

end Go.Proofs.Ytialgjbponlipaa

/-! Grid2 -/
namespace Go.Proofs.Ytialgjbponlipaa
open Go.RowKit

theorem ext_rows {xs ys : List (List Int)} (hl : xs.length = ys.length) (h : ∀ i, i < xs.length → xs.getD i [] = ys.getD i []) : xs = ys := by
  apply List.ext_getElem hl
  intro i h1 h2
  have := h i h1
  simpa [List.getD_eq_getElem?_getD, List.getElem?_eq_getElem h1, List.getElem?_eq_getElem h2] using this

end Go.Proofs.Ytialgjbponlipaa

/-! SetsSpec -/
namespace Go.Proofs.Ytialgjbponlipaa

/-- -1 ahead, 0 the same, 1 behind -/
def cmpS : List Int → List Int → Int
  | [], [] => 0
  | [], _ :: _ => -1
  | _ :: _, [] => 1
  | x :: xs, y :: ys => if x < y then -1 else if y < x then 1 else cmpS xs ys

theorem cmpS_range : ∀ a b : List Int, cmpS a b = -1 ∨ cmpS a b = 0 ∨ cmpS a b = 1
  | [], [] => .inr (.inl rfl)
  | [], _ :: _ => .inl rfl
  | _ :: _, [] => .inr (.inr rfl)
  | x :: xs, y :: ys => by
    rw [cmpS]
    split
    · exact .inl rfl
    · split
      · exact .inr (.inr rfl)
      · exact cmpS_range xs ys
theorem cmpS_eq : ∀ a b : List Int, cmpS a b = 0 ↔ a = b
  | [], [] => by simp [cmpS]
  | [], _ :: _ => by simp [cmpS]
  | _ :: _, [] => by simp [cmpS]
  | x :: xs, y :: ys => by
    rw [cmpS]
    split
    · simp; omega
    · split
      · simp; omega
      · rw [cmpS_eq xs ys, List.cons.injEq]
        constructor
        · intro h; exact ⟨by omega, h⟩
        · intro h; exact h.2
theorem cmpS_turn : ∀ a b : List Int, cmpS b a = -cmpS a b
  | [], [] => rfl
  | [], _ :: _ => rfl
  | _ :: _, [] => rfl
  | x :: xs, y :: ys => by
    rw [cmpS, cmpS]
    by_cases h1 : x < y
    · rw [if_neg (by omega), if_pos h1, if_pos h1]; rfl
    · by_cases h2 : y < x
      · rw [if_pos h2, if_neg h1, if_pos h2]
      · rw [if_neg h2, if_neg h1, if_neg h1, if_neg h2, cmpS_turn xs ys]
theorem cmpS_trans : ∀ a b c : List Int, cmpS a b ≤ 0 → cmpS b c ≤ 0 → cmpS a c ≤ 0 ∧ (cmpS a b < 0 → cmpS a c < 0) ∧ (cmpS b c < 0 → cmpS a c < 0)
  | [], [], [] => by simp [cmpS]
  | [], [], _ :: _ => by simp [cmpS]
  | [], _ :: _, [] => by simp [cmpS]
  | [], _ :: _, _ :: _ => by simp [cmpS]
  | _ :: _, [], _ => by simp [cmpS]
  | _ :: _, _ :: _, [] => by simp [cmpS]
  | x :: xs, y :: ys, z :: zs => by
    intro h1 h2
    have ih := cmpS_trans xs ys zs
    have e1 : cmpS (x :: xs) (y :: ys) = if x < y then -1 else if y < x then 1 else cmpS xs ys := by rw [cmpS]
    have e2 : cmpS (y :: ys) (z :: zs) = if y < z then -1 else if z < y then 1 else cmpS ys zs := by rw [cmpS]
    have e3 : cmpS (x :: xs) (z :: zs) = if x < z then -1 else if z < x then 1 else cmpS xs zs := by rw [cmpS]
    generalize cmpS (x :: xs) (y :: ys) = p at *
    generalize cmpS (y :: ys) (z :: zs) = q at *
    generalize cmpS (x :: xs) (z :: zs) = r at *
    split at e1
    · split at e2
      · rw [if_pos (by omega)] at e3; omega
      · split at e2
        · omega
        · rw [if_pos (by omega)] at e3; omega
    · split at e1
      · omega
      · split at e2
        · rw [if_pos (by omega)] at e3; omega
        · split at e2
          · omega
          · rw [if_neg (by omega), if_neg (by omega)] at e3
            rw [e1] at h1 ⊢
            rw [e2] at h2 ⊢
            rw [e3]
            exact ih h1 h2
theorem cmpS_pre : ∀ (a b c : List Int), cmpS (a ++ b) (a ++ c) = cmpS b c
  | [], _, _ => rfl
  | x :: a, b, c => by
    rw [List.cons_append, List.cons_append, cmpS, if_neg (by omega), if_neg (by omega), cmpS_pre a b c]

/-- no one is ahead of the one before it -/
def sortedS : List (List Int) → Bool
  | [] => true
  | [_] => true
  | a :: b :: r => decide (0 ≤ cmpS b a) && sortedS (b :: r)

theorem sortedS_cons {a : List Int} {l : List (List Int)} (h : sortedS (a :: l) = true) : sortedS l = true ∧ ∀ x ∈ l, cmpS a x ≤ 0 := by
  induction l generalizing a with
  | nil => exact ⟨rfl, fun _ hx => by cases hx⟩
  | cons b r ih =>
    simp only [sortedS, Bool.and_eq_true, decide_eq_true_eq] at h
    obtain ⟨h1, h2⟩ := h
    have ht := cmpS_turn b a
    refine ⟨h2, fun x hx => ?_⟩
    rcases List.mem_cons.1 hx with rfl | hx
    · omega
    · exact (cmpS_trans a b x (by omega) ((ih h2).2 x hx)).1
theorem sortedS_mk {a : List Int} {l : List (List Int)} (h : sortedS l = true) (h1 : ∀ x ∈ l, cmpS a x ≤ 0) : sortedS (a :: l) = true := by
  match l, h, h1 with
  | [], _, _ => rfl
  | b :: r, h, h1 =>
    simp only [sortedS, Bool.and_eq_true, decide_eq_true_eq]
    have := cmpS_turn a b
    exact ⟨by have := h1 b (List.mem_cons_self ..); omega, h⟩

/-- rows of the same elements, both in order, are the same -/
theorem sorted_same : ∀ (l m : List (List Int)), l.Perm m → sortedS l = true → sortedS m = true → l = m
  | [], m, hp, _, _ => (List.Perm.nil_eq hp)
  | a :: l, [], hp, _, _ => by have := hp.length_eq; simp at this
  | a :: l, b :: m, hp, h1, h2 => by
    have s1 := sortedS_cons h1
    have s2 := sortedS_cons h2
    have hab : a = b := by
      have ha : a ∈ b :: m := hp.mem_iff.1 (List.mem_cons_self ..)
      have hb : b ∈ a :: l := hp.mem_iff.2 (List.mem_cons_self ..)
      rcases List.mem_cons.1 ha with rfl | ha
      · rfl
      · rcases List.mem_cons.1 hb with hb | hb
        · exact hb.symm
        · have e1 := s2.2 a ha
          have e2 := s1.2 b hb
          have e3 := cmpS_turn a b
          exact (cmpS_eq a b).1 (by omega)
    subst hab
    rw [sorted_same l m (List.perm_cons a |>.1 hp) s1.1 s2.1]

end Go.Proofs.Ytialgjbponlipaa

/-! SetsAt -/
namespace Go.Proofs.Ytialgjbponlipaa

theorem cmpS_drop : ∀ (k : Nat) (xs ys : List Int), k ≤ xs.length → k ≤ ys.length → (∀ i, i < k → xs.getD i 0 = ys.getD i 0) → cmpS xs ys = cmpS (xs.drop k) (ys.drop k)
  | 0, _, _, _, _, _ => rfl
  | k + 1, [], _, h, _, _ => by simp at h
  | k + 1, _ :: _, [], _, h, _ => by simp at h
  | k + 1, x :: xs, y :: ys, h1, h2, h => by
    have h0 : x = y := by simpa using h 0 (by omega)
    subst h0
    rw [cmpS, if_neg (by omega), if_neg (by omega), List.drop_succ_cons, List.drop_succ_cons]
    exact cmpS_drop k xs ys (by simpa using h1) (by simpa using h2) fun i hi => by simpa using h (i + 1) (by omega)
theorem cmpS_head {k : Nat} {xs ys : List Int} (h1 : k < xs.length) (h2 : k < ys.length) (h : ∀ i, i < k → xs.getD i 0 = ys.getD i 0) :
    cmpS xs ys = if xs.getD k 0 < ys.getD k 0 then -1 else if ys.getD k 0 < xs.getD k 0 then 1 else cmpS (xs.drop (k + 1)) (ys.drop (k + 1)) := by
  rw [cmpS_drop k xs ys (by omega) (by omega) h, drop_getD (x := xs.getD k 0) rfl h1, drop_getD (x := ys.getD k 0) rfl h2, cmpS]
theorem cmpS_lt {k : Nat} {xs ys : List Int} (h1 : k < xs.length) (h2 : k < ys.length) (h : ∀ i, i < k → xs.getD i 0 = ys.getD i 0) (hl : xs.getD k 0 < ys.getD k 0) : cmpS xs ys = -1 := by
  rw [cmpS_head h1 h2 h, if_pos hl]
theorem cmpS_gt {k : Nat} {xs ys : List Int} (h1 : k < xs.length) (h2 : k < ys.length) (h : ∀ i, i < k → xs.getD i 0 = ys.getD i 0) (hl : ys.getD k 0 < xs.getD k 0) : cmpS xs ys = 1 := by
  rw [cmpS_head h1 h2 h, if_neg (by omega), if_pos hl]
theorem cmpS_end {k : Nat} {xs ys : List Int} (h1 : k ≤ xs.length) (h2 : k ≤ ys.length) (h : ∀ i, i < k → xs.getD i 0 = ys.getD i 0) (he : k = xs.length ∨ k = ys.length) :
    cmpS xs ys = if xs.length < ys.length then -1 else if ys.length < xs.length then 1 else 0 := by
  rw [cmpS_drop k xs ys h1 h2 h]
  have e1 : (xs.drop k).length = xs.length - k := List.length_drop
  have e2 : (ys.drop k).length = ys.length - k := List.length_drop
  generalize xs.drop k = p at e1 ⊢
  generalize ys.drop k = q at e2 ⊢
  match p, q with
  | [], [] => simp at e1 e2; rw [if_neg (by omega), if_neg (by omega)]; rfl
  | [], _ :: _ => simp at e1 e2; rw [if_pos (by omega)]; rfl
  | _ :: _, [] => simp at e1 e2; rw [if_neg (by omega), if_pos (by omega)]; rfl
  | _ :: _, _ :: _ => simp at e1 e2; omega

/-- no one of the first k is ahead of the one before it -/
theorem sortedS_iff : ∀ (l : List (List Int)), sortedS l = true ↔ ∀ i, 1 ≤ i → i < l.length → 0 ≤ cmpS (l.getD i []) (l.getD (i - 1) [])
  | [] => by simp [sortedS]
  | [a] => by simp [sortedS]; intro i h1 h2; omega
  | a :: b :: r => by
    rw [sortedS, Bool.and_eq_true, decide_eq_true_eq, sortedS_iff (b :: r)]
    constructor
    · rintro ⟨h0, h⟩ i h1 h2
      match i, h1, h2 with
      | 1, _, _ => simpa using h0
      | i + 2, _, h2 =>
        have := h (i + 1) (by omega) (by simpa using h2)
        simpa using this
    · intro h
      refine ⟨by simpa using h 1 (by omega) (by simp), fun i h1 h2 => ?_⟩
      have := h (i + 1) (by omega) (by simpa using h2)
      match i, h1 with
      | i + 1, _ => simpa using this
end Go.Proofs.Ytialgjbponlipaa

/-! RefSets1 -/
namespace Go.Proofs.Ytialgjbponlipaa
open Go.RowKit

theorem ret_i64 {a b : Int} (h : a = b) : Ending.returned (.int .i64 a) = .returned (.int .i64 b) := by rw [h]

end Go.Proofs.Ytialgjbponlipaa

/-! RefSets2 -/
namespace Go.Proofs.Ytialgjbponlipaa
open Go.RowKit

end Go.Proofs.Ytialgjbponlipaa

/-! TwinInts -/
namespace Go.Proofs.Ytialgjbponlipaa
open Go.RowKit

theorem keepTwinInts (v : Value) (xs : List Int) (w : World) (h : Sl .i64 w v xs) (hl : xs.length ≤ 10000000000000) :
    Calls Try.prog 8 #[v] w fun e w' => ∃ v', e = .returned v' ∧ Own .i64 3 w.heap.size w' v' xs ∧ Below w.heap.size w w' := by
  have H := hid h
  obtain ⟨a, cap, rfl, -, -, -⟩ := h
  go_enter Try.func8, Try.ntmps8
  go_wp2_with (at_builtin; go_loud (refine wpList_app _ rfl _ _ 22 rfl .i64 w.heap.size 3 8 Try.underlying22 Try.infoI64 _ [] xs rfl (Own.nil _ _ _ _) _ rfl H.out (by unfold maxLen; simp; omega) (by simp; omega) (by omega) ?_); intro v' w' ho hg hb hn)
  go_ret
  exact ⟨_, rfl, ho, hb⟩

end Go.Proofs.Ytialgjbponlipaa

/-! SetsMath -/
namespace Go.Proofs.Ytialgjbponlipaa

def rowAt (l : List (List Int)) (i : Nat) : List Int := l.getD i []
/-- place i stands ahead of place j -/
def ilt (l : List (List Int)) (i j : Nat) : Prop := cmpS (rowAt l i) (rowAt l j) < 0 ∨ (cmpS (rowAt l i) (rowAt l j) = 0 ∧ i < j)
/-- p tells which of the first n stands where -/
def IsPl (l : List (List Int)) (n : Nat) (p : List Nat) : Prop := p.Perm (List.range n) ∧ p.Pairwise (ilt l)

theorem ilt_not {l : List (List Int)} {i j : Nat} (h : ilt l i j) : ¬ ilt l j i := by
  have := cmpS_turn (rowAt l i) (rowAt l j)
  unfold ilt at h ⊢
  omega
theorem ilt_tri {l : List (List Int)} {i j : Nat} (h : ¬ ilt l i j) (h2 : ¬ ilt l j i) : i = j := by
  have := cmpS_turn (rowAt l i) (rowAt l j)
  unfold ilt at h h2
  omega
theorem pair_unique {α : Type} {R : α → α → Prop} (ha : ∀ a b, R a b → ¬ R b a) : ∀ (p q : List α), p.Perm q → p.Pairwise R → q.Pairwise R → p = q
  | [], q, hp, _, _ => List.Perm.nil_eq hp
  | a :: p, [], hp, _, _ => by have := hp.length_eq; simp at this
  | a :: p, b :: q, hp, h1, h2 => by
    rw [List.pairwise_cons] at h1 h2
    have hab : a = b := by
      have hA : a ∈ b :: q := hp.mem_iff.1 (List.mem_cons_self ..)
      have hB : b ∈ a :: p := hp.mem_iff.2 (List.mem_cons_self ..)
      rcases List.mem_cons.1 hA with h | hA
      · exact h
      · rcases List.mem_cons.1 hB with h | hB
        · exact h.symm
        · exact absurd (h2.1 a hA) (ha _ _ (h1.1 b hB))
    subst hab
    rw [pair_unique ha p q (List.perm_cons a |>.1 hp) h1.2 h2.2]
theorem place_unique {l : List (List Int)} {n : Nat} {p q : List Nat} (hp : IsPl l n p) (hq : IsPl l n q) : p = q :=
  pair_unique (R := ilt l) (fun _ _ h => ilt_not h) p q (hp.1.trans hq.1.symm) hp.2 hq.2
theorem place_nil (l : List (List Int)) : IsPl l 0 [] := ⟨List.Perm.refl _, List.Pairwise.nil⟩
theorem IsPl.len {l : List (List Int)} {n : Nat} {p : List Nat} (h : IsPl l n p) : p.length = n := by
  have := h.1.length_eq
  simpa using this
theorem IsPl.lt {l : List (List Int)} {n : Nat} {p : List Nat} (h : IsPl l n p) {i : Nat} (hi : i ∈ p) : i < n := by
  simpa using h.1.mem_iff.1 hi
theorem IsPl.nodup {l : List (List Int)} {n : Nat} {p : List Nat} (h : IsPl l n p) : p.Nodup := h.1.nodup_iff.2 List.nodup_range

/-- one more: what stands behind k is behind it, what stands at k - 1 is not. -/
theorem place_put {l : List (List Int)} {n k : Nat} {p : List Nat} (h : IsPl l n p) (hk : k ≤ p.length) (hb : ∀ j, k ≤ j → j < p.length → cmpS (rowAt l n) (rowAt l (p.getD j 0)) < 0)
    (ha : k = 0 ∨ 0 ≤ cmpS (rowAt l n) (rowAt l (p.getD (k - 1) 0))) : IsPl l (n + 1) (p.take k ++ n :: p.drop k) := by
  have gd : ∀ j (hj : j < p.length), p.getD j 0 = p[j] := fun j hj => by rw [List.getD_eq_getElem?_getD, List.getElem?_eq_getElem hj]; rfl
  have hperm : (p.take k ++ n :: p.drop k).Perm (List.range (n + 1)) := by
    rw [List.range_succ]
    refine (List.perm_middle).trans ?_
    rw [List.take_append_drop]
    exact (List.Perm.cons n h.1).trans (List.perm_append_comm (l₁ := [n]) (l₂ := List.range n))
  refine ⟨hperm, ?_⟩
  have hpw := h.2
  rw [← List.take_append_drop k p, List.pairwise_append] at hpw
  obtain ⟨w1, w2, w3⟩ := hpw
  rw [List.pairwise_append]
  have hback : ∀ x ∈ p.drop k, ilt l n x := fun x hx => by
    obtain ⟨j, hj, rfl⟩ := List.getElem_of_mem hx
    have hj' : j < p.length - k := by simpa using hj
    have := hb (k + j) (by omega) (by omega)
    rw [gd (k + j) (by omega)] at this
    rw [List.getElem_drop]
    exact .inl this
  have hfront : ∀ x ∈ p.take k, ilt l x n := fun x hx => by
    obtain ⟨j, hj, rfl⟩ := List.getElem_of_mem hx
    have hj' : j < k := by
      have : j < min k p.length := by simpa using hj
      omega
    rw [List.getElem_take]
    have hlast : cmpS (rowAt l (p[k - 1]'(by omega))) (rowAt l n) ≤ 0 := by
      rcases ha with h0 | h0
      · omega
      · rw [gd (k - 1) (by omega)] at h0
        have := cmpS_turn (rowAt l n) (rowAt l (p[k - 1]'(by omega)))
        omega
    have hxn : p[j]'(by omega) < n := h.lt (List.getElem_mem _)
    have hle : cmpS (rowAt l (p[j]'(by omega))) (rowAt l (p[k - 1]'(by omega))) ≤ 0 := by
      rcases Nat.lt_or_ge j (k - 1) with hjk | hjk
      · have := List.pairwise_iff_getElem.1 h.2 j (k - 1) (by omega) (by omega) hjk
        unfold ilt at this
        omega
      · have e : j = k - 1 := by omega
        subst e
        have := (cmpS_eq (rowAt l (p[k - 1]'(by omega))) (rowAt l (p[k - 1]'(by omega)))).2 rfl
        omega
    have ht := cmpS_trans _ _ _ hle hlast
    unfold ilt
    omega
  exact ⟨w1, List.pairwise_cons.2 ⟨hback, w2⟩, fun x hx y hy => by
    rcases List.mem_cons.1 hy with rfl | hy
    · exact hfront x hx
    · exact w3 x hx y hy⟩

/-- the rows in their order -/
def rowsAt (l : List (List Int)) (p : List Nat) : List (List Int) := p.map (rowAt l)
theorem rowsAt_range (l : List (List Int)) : rowsAt l (List.range l.length) = l := by
  apply List.ext_getElem
  · simp [rowsAt]
  · intro i h1 h2
    simp [rowsAt, rowAt, h2]
theorem rows_perm {l : List (List Int)} {p : List Nat} (h : IsPl l l.length p) : (rowsAt l p).Perm l := by
  have := h.1.map (rowAt l)
  have e := rowsAt_range l
  unfold rowsAt at e ⊢
  rwa [e] at this
theorem rows_sorted {l : List (List Int)} : ∀ {p : List Nat}, p.Pairwise (ilt l) → sortedS (rowsAt l p) = true
  | [], _ => rfl
  | a :: p, h => by
    rw [List.pairwise_cons] at h
    refine sortedS_mk (rows_sorted h.2) fun x hx => ?_
    obtain ⟨b, hb, rfl⟩ := List.mem_map.1 hx
    have := h.1 b hb
    unfold ilt at this
    omega
theorem sorted_place : ∀ (l : List (List Int)), sortedS l = true → (List.range l.length).Pairwise (ilt l) := by
  intro l h
  rw [List.pairwise_iff_getElem]
  intro i j hi hj hij
  simp only [List.length_range] at hi hj
  simp only [List.getElem_range]
  have key : ∀ (l : List (List Int)), sortedS l = true → ∀ i j, i < j → j < l.length → cmpS (rowAt l i) (rowAt l j) ≤ 0 := by
    intro l
    induction l with
    | nil => intro _ i j _ hj; simp at hj
    | cons a r ih =>
      intro h i j hij hj
      have hc := sortedS_cons h
      match i, j, hij, hj with
      | 0, j + 1, _, hj =>
        refine hc.2 (rowAt (a :: r) (j + 1)) ?_
        have hj' : j < r.length := by simpa using hj
        show r.getD j [] ∈ r
        rw [List.getD_eq_getElem?_getD, List.getElem?_eq_getElem hj']
        exact List.getElem_mem hj'
      | i + 1, j + 1, hij, hj => exact ih hc.1 i j (by omega) (by simpa using hj)
  have := key l h i j hij hj
  unfold ilt
  omega
theorem sorted_rows {l : List (List Int)} {p : List Nat} (h : IsPl l l.length p) (hs : sortedS l = true) : rowsAt l p = l := by
  have := place_unique h ⟨List.Perm.refl _, sorted_place l hs⟩
  rw [this, rowsAt_range]
theorem rows_same {l m : List (List Int)} {p q : List Nat} (hp : IsPl l l.length p) (hq : IsPl m m.length q) (h : l.Perm m) : rowsAt l p = rowsAt m q :=
  sorted_same _ _ ((rows_perm hp).trans (h.trans (rows_perm hq).symm)) (rows_sorted hp.2) (rows_sorted hq.2)
theorem rotate_perm {α : Type} (l : List α) (k : Nat) : (l.drop k ++ l.take k).Perm l := by
  have := List.perm_append_comm (l₁ := l.drop k) (l₂ := l.take k)
  rwa [List.take_append_drop] at this
end Go.Proofs.Ytialgjbponlipaa

/-! RefSets3 -/
namespace Go.Proofs.Ytialgjbponlipaa
open Go.RowKit

def castL (p : List Nat) : List Int := List.map (fun n : Nat => (n : Int)) p
theorem castL_len (p : List Nat) : (castL p).length = p.length := by simp [castL]
theorem castL_put (p : List Nat) (j k : Nat) : (castL p).take j ++ [(k : Int)] ++ (castL p).drop j = castL (p.take j ++ k :: p.drop j) := by simp [castL]
theorem castL_getD (p : List Nat) (i : Nat) : (castL p).getD i 0 = (p.getD i 0 : Nat) := by
  rw [List.getD_eq_getElem?_getD, List.getD_eq_getElem?_getD, castL, List.getElem?_map]
  cases p[i]? <;> rfl
theorem castL_inj : ∀ {p q : List Nat}, castL p = castL q → p = q
  | [], [], _ => rfl
  | [], _ :: _, h => by simp [castL] at h
  | _ :: _, [], h => by simp [castL] at h
  | a :: p, b :: q, h => by
    simp only [castL, List.map_cons, List.cons.injEq] at h
    rw [castL_inj (p := p) (q := q) h.2, Int.ofNat.inj h.1]

/-- the tail of a round: what was read is put in its place -/
theorem place_mem {l : List (List Int)} {n i : Nat} {p : List Nat} (h : IsPl l n p) (hi : i < p.length) : p.getD i 0 < n := by
  rw [List.getD_eq_getElem?_getD, List.getElem?_eq_getElem hi]
  exact h.lt (List.getElem_mem hi)

end Go.Proofs.Ytialgjbponlipaa

/-! StabMath -/
namespace Go.Proofs.Ytialgjbponlipaa

/-- what stands at i and at j, exchanged -/
def sw (p : List Nat) (i j : Nat) : List Nat := (p.set i (p.getD j 0)).set j (p.getD i 0)
theorem sw_len (p : List Nat) (i j : Nat) : (sw p i j).length = p.length := by simp [sw]
theorem set_mid (A B : List Nat) (x y : Nat) : (A ++ x :: B).set A.length y = A ++ y :: B := by simp
theorem getD_mid (A B : List Nat) (x : Nat) : (A ++ x :: B).getD A.length 0 = x := by simp [List.getD_eq_getElem?_getD]
theorem sw_lists (A B C : List Nat) (x y : Nat) : sw (A ++ x :: (B ++ y :: C)) A.length (A.length + 1 + B.length) = A ++ y :: (B ++ x :: C) := by
  have e : A ++ x :: (B ++ y :: C) = (A ++ x :: B) ++ y :: C := by simp
  have hl : A.length + 1 + B.length = (A ++ x :: B).length := by simp; omega
  have g1 : (A ++ x :: (B ++ y :: C)).getD (A.length + 1 + B.length) 0 = y := by rw [e, hl, getD_mid]
  have g2 : (A ++ x :: (B ++ y :: C)).getD A.length 0 = x := getD_mid A _ x
  unfold sw
  rw [g1, g2, set_mid]
  have e' : A ++ y :: (B ++ y :: C) = (A ++ y :: B) ++ y :: C := by simp
  have hl' : A.length + 1 + B.length = (A ++ y :: B).length := by simp; omega
  rw [e', hl', set_mid]
  simp
theorem sw_next (A C : List Nat) (x y : Nat) : sw (A ++ x :: y :: C) A.length (A.length + 1) = A ++ y :: x :: C := sw_lists A [] C x y
theorem sw_turn (p : List Nat) {i j : Nat} (h : i ≠ j) : sw p i j = sw p j i := by
  unfold sw
  exact (List.set_comm _ _ h)
theorem sw_prev (A C : List Nat) (x y : Nat) : sw (A ++ x :: y :: C) (A.length + 1) A.length = A ++ y :: x :: C := by
  rw [sw_turn _ (by omega), sw_next]

/-- the first k of two runs, exchanged one by one -/
def swR (p : List Nat) (a b : Nat) : Nat → List Nat
  | 0 => p
  | k + 1 => sw (swR p a b k) (a + k) (b + k)
theorem swR_len (p : List Nat) (a b : Nat) : ∀ k, (swR p a b k).length = p.length
  | 0 => rfl
  | k + 1 => by rw [swR, sw_len, swR_len p a b k]
theorem snoc_of {U : List Nat} {k : Nat} (h : U.length = k + 1) : ∃ U1 u, U = U1 ++ [u] := by
  have hn : U ≠ [] := by rintro rfl; simp at h
  exact ⟨U.dropLast, U.getLast hn, (List.dropLast_concat_getLast hn).symm⟩
theorem swR_lists (A B C : List Nat) : ∀ (k : Nat) (U V : List Nat), U.length = k → V.length = k → ∀ (U' V' : List Nat), U'.length = V'.length →
    swR (A ++ (U ++ U') ++ B ++ (V ++ V') ++ C) A.length (A.length + (U.length + U'.length) + B.length) k = A ++ (V ++ U') ++ B ++ (U ++ V') ++ C
  | 0, U, V, hU, hV, U', V', _ => by
    obtain rfl := List.eq_nil_of_length_eq_zero hU
    obtain rfl := List.eq_nil_of_length_eq_zero hV
    rfl
  | k + 1, U, V, hU, hV, U', V', h' => by
    obtain ⟨U1, u, rfl⟩ := snoc_of hU
    obtain ⟨V1, v, rfl⟩ := snoc_of hV
    simp only [List.length_append, List.length_cons, List.length_nil] at hU hV
    have ih := swR_lists A B C k U1 V1 (by omega) (by omega) (u :: U') (v :: V') (by simp [h'])
    have e0 : A ++ (U1 ++ [u] ++ U') ++ B ++ (V1 ++ [v] ++ V') ++ C = A ++ (U1 ++ u :: U') ++ B ++ (V1 ++ v :: V') ++ C := by simp
    have l0 : A.length + ((U1 ++ [u]).length + U'.length) + B.length = A.length + (U1.length + (u :: U').length) + B.length := by simp; omega
    rw [swR, e0, l0, ih]
    have e1 : A ++ (V1 ++ u :: U') ++ B ++ (U1 ++ v :: V') ++ C = (A ++ V1) ++ u :: ((U' ++ B ++ U1) ++ v :: (V' ++ C)) := by simp
    have l1 : A.length + k = (A ++ V1).length := by simp; omega
    have l2 : A.length + (U1.length + (u :: U').length) + B.length + k = (A ++ V1).length + 1 + (U' ++ B ++ U1).length := by simp; omega
    rw [e1, l1, l2, sw_lists]
    simp
theorem swR_runs (A U B V C : List Nat) (h : U.length = V.length) : swR (A ++ U ++ B ++ V ++ C) A.length (A.length + U.length + B.length) U.length = A ++ V ++ B ++ U ++ C := by
  have := swR_lists A B C U.length U V rfl h.symm [] [] rfl
  simpa using this

/-! ### places in joined lists -/
theorem at_left {A L T : List Nat} {i : Nat} (h0 : A.length ≤ i) (h1 : i < A.length + L.length) : (A ++ L ++ T).getD i 0 = L.getD (i - A.length) 0 := by
  simp only [List.getD_eq_getElem?_getD]
  rw [List.getElem?_append_left (by simp; omega), List.getElem?_append_right h0]
theorem at_right {A L R C : List Nat} {i : Nat} (h0 : A.length + L.length ≤ i) (h1 : i < A.length + L.length + R.length) : (A ++ L ++ R ++ C).getD i 0 = R.getD (i - (A.length + L.length)) 0 := by
  have := @at_left (A ++ L) R C i (by simp; omega) (by simp; omega)
  simpa using this
theorem getD_mem {L : List Nat} {i : Nat} (h : i < L.length) : L.getD i 0 ∈ L := by
  rw [List.getD_eq_getElem?_getD, List.getElem?_eq_getElem h]
  exact List.getElem_mem h
theorem mem_getD {L : List Nat} {x : Nat} (h : x ∈ L) : ∃ i, i < L.length ∧ L.getD i 0 = x := by
  obtain ⟨i, hi, rfl⟩ := List.getElem_of_mem h
  exact ⟨i, hi, by rw [List.getD_eq_getElem?_getD, List.getElem?_eq_getElem hi]; rfl⟩
theorem mem_take_getD {L : List Nat} {x t : Nat} (h : x ∈ L.take t) : ∃ i, i < t ∧ i < L.length ∧ L.getD i 0 = x := by
  obtain ⟨i, hi, rfl⟩ := List.getElem_of_mem h
  rw [List.length_take] at hi
  exact ⟨i, by omega, by omega, by rw [List.getD_eq_getElem?_getD, List.getElem?_eq_getElem (by omega)]; simp⟩
theorem mem_drop_getD {L : List Nat} {x t : Nat} (h : x ∈ L.drop t) : ∃ i, t ≤ i ∧ i < L.length ∧ L.getD i 0 = x := by
  obtain ⟨i, hi, rfl⟩ := List.getElem_of_mem h
  rw [List.length_drop] at hi
  exact ⟨t + i, by omega, by omega, by rw [List.getD_eq_getElem?_getD, List.getElem?_eq_getElem (by omega)]; simp⟩

/-! ### in order -/
/-- a is not behind b -/
def ile (l : List (List Int)) (i j : Nat) : Prop := i = j ∨ ilt l i j
theorem ilt_trans {l : List (List Int)} {i j k : Nat} (h1 : ilt l i j) (h2 : ilt l j k) : ilt l i k := by
  have t := cmpS_trans (rowAt l i) (rowAt l j) (rowAt l k)
  unfold ilt at h1 h2 ⊢
  have t1 := t (by omega) (by omega)
  omega
theorem ile_trans {l : List (List Int)} {i j k : Nat} (h1 : ile l i j) (h2 : ilt l j k) : ilt l i k := by
  rcases h1 with rfl | h1
  · exact h2
  · exact ilt_trans h1 h2
theorem ile_trans' {l : List (List Int)} {i j k : Nat} (h1 : ilt l i j) (h2 : ile l j k) : ilt l i k := by
  rcases h2 with rfl | h2
  · exact h1
  · exact ilt_trans h1 h2
theorem pw_le {l : List (List Int)} {L : List Nat} (h : L.Pairwise (ilt l)) {i j : Nat} (hij : i ≤ j) (hj : j < L.length) : ile l (L.getD i 0) (L.getD j 0) := by
  rcases Nat.lt_or_ge i j with h1 | h1
  · right
    have := List.pairwise_iff_getElem.1 h i j (by omega) hj h1
    rw [List.getD_eq_getElem?_getD, List.getD_eq_getElem?_getD, List.getElem?_eq_getElem (by omega), List.getElem?_eq_getElem hj]
    exact this
  · obtain rfl : i = j := by omega
    exact .inl rfl
/-- y is compared with x, and y's number is the greater: only ahead where its row is -/
theorem cmp_lt {l : List (List Int)} {x y : Nat} (h : x < y) : cmpS (rowAt l y) (rowAt l x) < 0 ↔ ilt l y x := by
  unfold ilt
  omega
theorem cmp_ge {l : List (List Int)} {x y : Nat} (h : x < y) : ¬ cmpS (rowAt l y) (rowAt l x) < 0 ↔ ilt l x y := by
  have := cmpS_turn (rowAt l x) (rowAt l y)
  unfold ilt
  omega

/-- one put among others that are in order -/
theorem pw_put {l : List (List Int)} {R : List Nat} {x t : Nat} (h : R.Pairwise (ilt l)) (ht : t ≤ R.length) (h1 : t = 0 ∨ ilt l (R.getD (t - 1) 0) x) (h2 : t = R.length ∨ ilt l x (R.getD t 0)) :
    (R.take t ++ x :: R.drop t).Pairwise (ilt l) := by
  rw [List.pairwise_append, List.pairwise_cons]
  have hb : ∀ a ∈ R.take t, ilt l a x := fun a ha => by
    obtain ⟨i, hi, hi2, rfl⟩ := mem_take_getD ha
    exact ile_trans (pw_le h (show i ≤ t - 1 by omega) (by omega)) (by rcases h1 with h1 | h1; omega; exact h1)
  have ha : ∀ a ∈ R.drop t, ilt l x a := fun a ha => by
    obtain ⟨i, hi, hi2, rfl⟩ := mem_drop_getD ha
    exact ile_trans' (by rcases h2 with h2 | h2; omega; exact h2) (pw_le h hi hi2)
  refine ⟨h.sublist (List.take_sublist ..), ⟨ha, h.sublist (List.drop_sublist ..)⟩, fun a h3 b h4 => ?_⟩
  rcases List.mem_cons.1 h4 with rfl | h4
  · exact hb a h3
  · exact ilt_trans (hb a h3) (ha b h4)
theorem put_perm (R : List Nat) (x t : Nat) : (R.take t ++ x :: R.drop t).Perm (x :: R) := by
  refine List.perm_middle.trans ?_
  rw [List.take_append_drop]

/-- the four parts of a cut merge -/
theorem pw_join {l : List (List Int)} {M1 M2 L1 L2 R1 R2 : List Nat} (h1 : M1.Perm (L1 ++ R1)) (h2 : M2.Perm (L2 ++ R2)) (p1 : M1.Pairwise (ilt l)) (p2 : M2.Pairwise (ilt l))
    (a : ∀ x ∈ L1, ∀ y ∈ L2, ilt l x y) (b : ∀ x ∈ L1, ∀ y ∈ R2, ilt l x y) (c : ∀ x ∈ R1, ∀ y ∈ L2, ilt l x y) (d : ∀ x ∈ R1, ∀ y ∈ R2, ilt l x y) : (M1 ++ M2).Pairwise (ilt l) := by
  rw [List.pairwise_append]
  refine ⟨p1, p2, fun x hx y hy => ?_⟩
  rcases List.mem_append.1 (h1.mem_iff.1 hx) with hx | hx <;> rcases List.mem_append.1 (h2.mem_iff.1 hy) with hy | hy
  · exact a x hx y hy
  · exact b x hx y hy
  · exact c x hx y hy
  · exact d x hx y hy
theorem perm_join {M1 M2 L1 L2 R1 R2 : List Nat} (h1 : M1.Perm (L1 ++ R1)) (h2 : M2.Perm (L2 ++ R2)) : (M1 ++ M2).Perm (L1 ++ L2 ++ (R1 ++ R2)) := by
  refine (h1.append h2).trans ?_
  rw [List.append_assoc, List.append_assoc]
  refine List.Perm.append_left L1 ?_
  rw [← List.append_assoc, ← List.append_assoc]
  exact List.Perm.append_right R2 List.perm_append_comm
theorem cut_rel {R : Nat → Nat → Prop} {L : List Nat} (h : L.Pairwise R) (t : Nat) : ∀ x ∈ L.take t, ∀ y ∈ L.drop t, R x y := by
  rw [← List.take_append_drop t L, List.pairwise_append] at h
  exact h.2.2
end Go.Proofs.Ytialgjbponlipaa

/-! Grow -/
namespace Go.Proofs.Ytialgjbponlipaa
open Go.RowKit

theorem grow_set1 {a w : World} {B : Nat} (h : a.grownBy w (some B)) (j : Nat) (v : Value) : a.grownBy (w.setCell ⟨B, j, none⟩ v) (some B) := by
  have k : w.grownBy (w.setCell ⟨B, j, none⟩ v) (some B) := ⟨rfl, rfl, rfl, by simp [World.setCell], fun i _ hn => Below.heap_setCell _ _ _ _ (fun e => hn (by rw [e]))⟩
  exact ⟨k.os.trans h.os, k.tape.trans h.tape, k.output.trans h.output, Nat.le_trans h.size k.size, fun i hi hn => (k.block i (Nat.lt_of_lt_of_le hi h.size) hn).trans (h.block i hi hn)⟩

theorem grow_new (w : World) (o : Obj) (r : Option Nat) : w.grownBy (w.alloc o) r := ⟨rfl, rfl, rfl, by simp, fun i hi _ => Below.heap_alloc w o i hi⟩
theorem grow_trans {a b c : World} {r : Option Nat} (h : a.grownBy b r) (k : b.grownBy c r) : a.grownBy c r :=
  ⟨k.os.trans h.os, k.tape.trans h.tape, k.output.trans h.output, Nat.le_trans h.size k.size, fun i hi hn => (k.block i (Nat.lt_of_lt_of_le hi h.size) hn).trans (h.block i hi hn)⟩
end Go.Proofs.Ytialgjbponlipaa

/-! Over -/
namespace Go.Proofs.Ytialgjbponlipaa
open Go.RowKit

end Go.Proofs.Ytialgjbponlipaa

/-! Later -/
namespace Go.Proofs.Ytialgjbponlipaa
open Go.RowKit

/-- a world in which all that W holds is as it was -/
structure Later (W : World) where
  w : World
  below : Below W.heap.size W w
instance (W : World) : Nonempty (Later W) := ⟨⟨W, Below.refl _ _⟩⟩
theorem region_later {P : Program} {id : Nat} {Q : Exit → Act → World → Prop} {a : Act} {w : World} {l : List Oper} (hm : P.follows .mixedOrders = true) (hB : Region.lexB .any l.toArray = true)
    (h : wpQuiet P l.toArray (fun w' => ∃ u : Later w, w' = u.w) (fun a' => ∀ w', (∃ u : Later w, w' = u.w) → Q .normal a' w') l a) : (Code.region id l.toArray true).wp P Q a w :=
  wp_region_quiet (C := fun w' => ∃ u : Later w, w' = u.w) hm hB ⟨⟨w.drew, (Below.refl _ _).drew⟩, rfl⟩ (by simpa using h)
theorem later_call {P : Program} {f : FuncId} {args : Array Value} {W : World} {u : Later W} {v : Value} (h : Calls P f args u.w fun e w'' => e = .returned v ∧ Below u.w.heap.size u.w w'') :
    Calls P f args u.w fun e w'' => e = .returned v ∧ ∃ u' : Later W, w'' = u'.w :=
  h.mono fun _ w'' ⟨he, hb⟩ => ⟨he, ⟨w'', u.below.trans (hb.mono u.below.size)⟩, rfl⟩
theorem Later.cell {W : World} (u : Later W) {p : Addr} {v : Value} (h : W.cell? p = some v) : u.w.cell? p = some v := (u.below.cell (World.block_lt_of_cell? W _ h)).trans h
end Go.Proofs.Ytialgjbponlipaa
