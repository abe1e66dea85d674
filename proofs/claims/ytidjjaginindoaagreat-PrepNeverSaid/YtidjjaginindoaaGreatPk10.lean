/- Several texts in one: Grow, Over, NarIn, AnyF. -/
import Derived.Test.YtidjjaginindoaaGreatPk1
import Derived.Orders
import Derived.Great.BuildSlice
import Derived.Great.FillDense
import Derived.Shelf.Abstract
/-! Grow -/
namespace Go.Proofs.YtidjjaginindoaaGreat
open Go.RowKit

theorem grow_set1 {a w : World} {B : Nat} (h : a.grownBy w (some B)) (j : Nat) (v : Value) : a.grownBy (w.setCell ⟨B, j, none⟩ v) (some B) := by
  have k : w.grownBy (w.setCell ⟨B, j, none⟩ v) (some B) := ⟨rfl, rfl, rfl, by simp [World.setCell], fun i _ hn => Below.heap_setCell _ _ _ _ (fun e => hn (by rw [e]))⟩
  exact ⟨k.os.trans h.os, k.tape.trans h.tape, k.output.trans h.output, Nat.le_trans h.size k.size, fun i hi hn => (k.block i (Nat.lt_of_lt_of_le hi h.size) hn).trans (h.block i hi hn)⟩

theorem grow_new (w : World) (o : Obj) (r : Option Nat) : w.grownBy (w.alloc o) r := ⟨rfl, rfl, rfl, by simp, fun i hi _ => Below.heap_alloc w o i hi⟩
theorem grow_trans {a b c : World} {r : Option Nat} (h : a.grownBy b r) (k : b.grownBy c r) : a.grownBy c r :=
  ⟨k.os.trans h.os, k.tape.trans h.tape, k.output.trans h.output, Nat.le_trans h.size k.size, fun i hi hn => (k.block i (Nat.lt_of_lt_of_le hi h.size) hn).trans (h.block i hi hn)⟩
end Go.Proofs.YtidjjaginindoaaGreat

/-! Over -/
namespace Go.Proofs.YtidjjaginindoaaGreat
open Go.RowKit

end Go.Proofs.YtidjjaginindoaaGreat

/-! NarIn -/
namespace Go.Proofs.YtidjjaginindoaaGreat
open Go.RowKit

def inR (c lo hi : Int) : Bool := decide (lo ≤ c ∧ c ≤ hi)
theorem inR_t {c lo hi : Int} (h : lo ≤ c ∧ c ≤ hi) : inR c lo hi = true := decide_eq_true h
theorem inR_f {c lo hi : Int} (h : ¬ (lo ≤ c ∧ c ≤ hi)) : inR c lo hi = false := decide_eq_false h
end Go.Proofs.YtidjjaginindoaaGreat

/-! AnyF -/
namespace Go.Proofs.YtidjjaginindoaaGreat
open Go.RowKit

section
variable {P : Program} {ops : Array Oper} {Q : Exit → Act → World → Prop}

def giveUpon (P : Program) (w : World) (R : Value → World → Prop) : Result Next → Prop
  | .ok (.value u) w' => Below w.heap.size w w' ∧ R u w'
  | .ok .skip w' => Below w.heap.size w w' ∧ R undef w'
  | .ok (.enter f args) w' => Calls P f args w' fun e w'' => ∃ v, e = .returned v ∧ Below w.heap.size w w'' ∧ R v w''
  | _ => False
/-- carried out in a and w, the operation gives a value of which R holds, and all that was there stays -/
def factOp (P : Program) (ops : Array Oper) (o : Oper) (a : Act) (w : World) (R : Value → World → Prop) : Prop :=
  if Region.wanted o (yielded ops a.tmps) then giveUpon P w R ((execOp a.eval o).run P w) else R undef w
theorem wpOp_of_fact {i : Nat} {o : Oper} {a : Act} {w : World} {R : Value → World → Prop} {K : Act → World → Prop} (hi : ops[i]? = some o) (h : factOp P ops o a w R)
    (hK : ∀ v w', Below w.heap.size w w' → R v w' → K (a.put o.dst v) w') : wpOp P ops Q i K a w := by
  unfold factOp at h
  unfold wpOp
  simp only [hi]
  split
  · rename_i hw
    rw [if_pos hw] at h
    refine .inl ?_
    unfold Oper.wp
    generalize (execOp a.eval o).run P w = r at *
    cases r with
    | ok n w' =>
      cases n <;> simp only [giveUpon] at h <;> simp only [Oper.upon]
      case value u => exact hK _ _ h.1 h.2
      case skip => exact hK _ _ h.1 h.2
      case enter f args =>
        refine h.mono ?_
        rintro e w'' ⟨v, rfl, hb, hr⟩
        exact hK _ _ hb hr
    | halt x w' => simp only [giveUpon] at h
  · rename_i hw
    rw [if_neg hw] at h
    exact hK _ _ (Below.refl _ _) h
theorem eval_agree {a b : Act} {x : Operand} (h : ∀ t, x = .tmp t → a.tmps[t]? = b.tmps[t]?) : a.eval x = b.eval x := by
  cases x with
  | tmp t =>
    have := h t rfl
    simp only [Act.eval, Array.getD_eq_getD_getElem?, this]
  | const v => rfl
  | global g => rfl
  | func f => rfl
theorem factOp_agree {o : Oper} {a b : Act} {w : World} {R : Value → World → Prop} (hs : ∀ cs c, o.op ≠ .select cs c) (h : ∀ t ∈ o.looksAt ops, a.tmps[t]? = b.tmps[t]?) (hf : factOp P ops o a w R) : factOp P ops o b w R := by
  have he : execOp a.eval o = execOp b.eval o := execOp_congr o hs fun x hx => eval_agree fun t ht => h t (by
    subst ht
    exact List.mem_append_left _ (List.mem_filterMap.2 ⟨.tmp t, by simpa using hx, rfl⟩))
  have hw : Region.wanted o (yielded ops a.tmps) = Region.wanted o (yielded ops b.tmps) := by
    unfold Region.wanted
    cases hg : o.guard with
    | none => rfl
    | some gw =>
      obtain ⟨g, want⟩ := gw
      have hy : yielded ops a.tmps g = yielded ops b.tmps g := by
        unfold yielded
        cases ht : (ops[g]?).bind (·.dst) with
        | none => rfl
        | some t =>
          have := h t (by simp [Oper.looksAt, hg, ht])
          simp [this]
      simp only [hy]
  unfold factOp at *
  rw [← he, ← hw]
  exact hf

def dstOf (ops : Array Oper) (i : Nat) : Option Tmp := (ops[i]?).bind (·.dst)
/-- i waits for j -/
def waits (ops : Array Oper) (i j : Nat) : Bool := ((ops[i]?).map fun o => o.after.any fun e => Region.binds .any e && e.on == j).getD false
/-- the frame with the values of operations m0 to k -/
def upTo (ops : Array Oper) (m0 : Nat) (a : Act) (vs : Nat → Value) : Nat → Act
  | 0 => a
  | k + 1 => if m0 ≤ k then (upTo ops m0 a vs k).put (dstOf ops k) (vs k) else a
def allBut (n m k : Nat) : Array Bool := ((List.range n).map fun j => decide (j < m) && decide (j ≠ k)).toArray
def firstM (n m : Nat) : Array Bool := ((List.range n).map fun j => decide (j < m)).toArray
/-- which of the first j operations wait, near or far, for k, or are k -/
def blkF (ops : Array Oper) (k : Nat) : Nat → List Bool
  | 0 => []
  | j + 1 => blkF ops k j ++ [decide (j = k) || (List.range j).any fun i => waits ops j i && (blkF ops k j).getD i false]
theorem blkF_len {k : Nat} : ∀ m, (blkF ops k m).length = m
  | 0 => rfl
  | m + 1 => by rw [blkF, List.length_append, blkF_len m]; rfl
theorem blkF_unlisted {k m : Nat} {l : Array Bool} (hk : l.getD k true = false) (hd : ∀ j, j < m → l.getD j true = true → ∀ i, waits ops j i = true → l.getD i true = true) :
    ∀ n, n ≤ m → ∀ j, j < n → (blkF ops k n).getD j false = true → l.getD j true = false
  | 0, _, j, hj, _ => absurd hj (by omega)
  | n + 1, hn, j, hj, h => by
    have ih := blkF_unlisted hk hd n (by omega)
    rw [blkF] at h
    by_cases hjn : j < n
    · rw [List.getD_eq_getElem?_getD, List.getElem?_append_left (by rw [blkF_len]; exact hjn), ← List.getD_eq_getElem?_getD] at h
      exact ih j hjn h
    · obtain rfl : j = n := by omega
      rw [List.getD_eq_getElem?_getD, List.getElem?_append_right (by rw [blkF_len]; omega), blkF_len, Nat.sub_self] at h
      simp only [List.getElem?_cons_zero, Option.getD_some, Bool.or_eq_true, decide_eq_true_eq, List.any_eq_true, List.mem_range, Bool.and_eq_true] at h
      rcases h with h | ⟨i, h1, h2, h3⟩
      · rw [h]; exact hk
      · cases hl : l.getD j true with
        | false => rfl
        | true =>
          have h4 := hd j (by omega) hl i h2
          rw [ih i h1 h3] at h4
          cases h4
/-- operations m0 to m, behind the first m0: what each waits for stands ahead of it; what it looks at is given by what it waits for, or by nobody yet; no two give to one place; none of the others comes up ahead of them all -/
def factB (ops : Array Oper) (m0 m : Nat) : Bool :=
  Region.noSelect ops && (decide (m ≤ ops.size) &&
  (((List.range m).all fun i => decide (i < m0) ||
    (((ops[i]?).map (fun o => (o.after.all fun e => !Region.binds .any e || decide (e.on < i)) &&
      ((o.looksAt ops).all fun t => (List.range ops.size).all fun j => decide (j < m0) || (dstOf ops j != some t || ((decide (j < i) && waits ops i j) || (decide (j = i) || (decide (i < j) && (waits ops j i || decide (m ≤ j))))))))).getD false &&
    (List.range m).all (fun j => decide (j < m0) || (decide (j = i) || (dstOf ops j).isNone || dstOf ops j != dstOf ops i)))) &&
  (List.range ops.size).all fun i => decide (i < m) || ((List.range ops.size).any fun j => decide (m ≤ j) && waits ops i j) || (List.range m).all fun k => decide (k < m0) || (List.range m).any fun j => waits ops i j && (blkF ops k m).getD j false) &&
  (List.range m0).all fun j => ((ops[j]?).map fun o => o.after.all fun e => !Region.binds .any e || decide (e.on < m0)).getD true)

theorem upTo_same {m0 : Nat} {a : Act} {vs : Nat → Value} {t : Tmp} : ∀ k, (∀ j, m0 ≤ j → j < k → dstOf ops j ≠ some t) → (upTo ops m0 a vs k).tmps[t]? = a.tmps[t]?
  | 0, _ => rfl
  | k + 1, h => by
    rw [upTo]
    by_cases hk : m0 ≤ k
    · rw [if_pos hk]
      have h1 := h k hk (Nat.lt_succ_self k)
      have ih := upTo_same (a := a) (vs := vs) k fun j hj hjk => h j hj (Nat.lt_succ_of_lt hjk)
      rw [← ih]
      cases hd : dstOf ops k with
      | none => rfl
      | some u =>
        have hne : u ≠ t := fun e => h1 (by rw [hd, e])
        simp [Act.put, Array.getElem?_setIfInBounds_ne hne]
    · rw [if_neg hk]
theorem upTo_size {m0 : Nat} {a : Act} {vs : Nat → Value} : ∀ k, (upTo ops m0 a vs k).tmps.size = a.tmps.size ∧ (upTo ops m0 a vs k).defers = a.defers
  | 0 => ⟨rfl, rfl⟩
  | k + 1 => by
    rw [upTo]
    by_cases hk : m0 ≤ k
    · rw [if_pos hk]
      have := upTo_size (m0 := m0) (a := a) (vs := vs) k
      cases hd : dstOf ops k with
      | none => exact this
      | some u => exact ⟨by simp [Act.put, this.1], by simp [Act.put, this.2]⟩
    · rw [if_neg hk]
      exact ⟨rfl, rfl⟩
theorem upTo_at {m0 : Nat} {a : Act} {vs : Nat → Value} {t : Tmp} {j : Nat} (ht : t < a.tmps.size) (h0 : m0 ≤ j) (hj : dstOf ops j = some t) : ∀ k, j < k → (∀ i, m0 ≤ i → i < k → i ≠ j → dstOf ops i ≠ some t) → (upTo ops m0 a vs k).tmps[t]? = some (vs j)
  | 0, h, _ => absurd h (by omega)
  | k + 1, h, hn => by
    rw [upTo, if_pos (by omega)]
    have hs := (upTo_size (ops := ops) (m0 := m0) (a := a) (vs := vs) k).1
    by_cases hjk : j = k
    · subst hjk
      rw [hj]
      simp [Act.put, hs, ht]
    · have h1 := upTo_at (vs := vs) ht h0 hj k (by omega) fun i hi0 hi => hn i hi0 (by omega)
      have h2 := hn k (by omega) (by omega) (fun e => hjk e.symm)
      cases hd : dstOf ops k with
      | none => exact h1
      | some u =>
        have hne : u ≠ t := fun e => h2 (by rw [hd, e])
        simp [Act.put, Array.getElem?_setIfInBounds_ne hne]
        simpa using h1

/-- slot t is given by operation j alone, among those from m0 to k -/
def givenB (ops : Array Oper) (m0 k j : Nat) (t : Tmp) : Bool := decide (m0 ≤ j ∧ j < k) && (dstOf ops j == some t && (List.range k).all fun i => decide (i < m0) || (decide (i = j) || dstOf ops i != some t))
/-- slot t is given by none of them -/
def keptB (ops : Array Oper) (m0 k : Nat) (t : Tmp) : Bool := (List.range k).all fun i => decide (i < m0) || dstOf ops i != some t
theorem ev {m0 k j : Nat} {t : Tmp} {a : Act} {vs : Nat → Value} (h : givenB ops m0 k j t = true) (ht : decide (t < a.tmps.size) = true) : (upTo ops m0 a vs k).eval (.tmp t) = vs j := by
  unfold givenB at h
  simp only [Bool.and_eq_true, decide_eq_true_eq, beq_iff_eq] at h
  obtain ⟨⟨h1, h2⟩, h3, h4⟩ := h
  have := upTo_at (ops := ops) (vs := vs) (of_decide_eq_true ht) h1 h3 k h2 fun i hi0 hi hne => by
    have h5 := List.all_eq_true.1 h4 i (List.mem_range.2 hi)
    have e1 : decide (i < m0) = false := decide_eq_false (by omega)
    have e2 : decide (i = j) = false := decide_eq_false hne
    rw [e1, e2] at h5
    simpa using h5
  simp only [Act.eval, Array.getD_eq_getD_getElem?, this]
  rfl
theorem ev0 {m0 k : Nat} {t : Tmp} {a : Act} {vs : Nat → Value} (h : keptB ops m0 k t = true) : (upTo ops m0 a vs k).eval (.tmp t) = a.eval (.tmp t) := by
  have := upTo_same (ops := ops) (m0 := m0) (a := a) (vs := vs) (t := t) k fun i hi0 hi => by
    have h5 := List.all_eq_true.1 h i (List.mem_range.2 hi)
    have e1 : decide (i < m0) = false := decide_eq_false (by omega)
    rw [e1] at h5
    simpa using h5
  simp only [Act.eval, Array.getD_eq_getD_getElem?, this]

theorem evA {m0 k j : Nat} {t : Tmp} {a A : Act} {vs : Nat → Value} (hA : A = upTo ops m0 a vs k) (h : givenB ops m0 k j t = true) (ht : decide (t < a.tmps.size) = true) : A.eval (.tmp t) = vs j := by rw [hA]; exact ev h ht
theorem ev0A {m0 k : Nat} {t : Tmp} {a A : Act} {vs : Nat → Value} (hA : A = upTo ops m0 a vs k) (h : keptB ops m0 k t = true) : A.eval (.tmp t) = a.eval (.tmp t) := by rw [hA]; exact ev0 h

theorem evS {m0 k j : Nat} {t : Tmp} {a A : Act} {vs : Nat → Value} {n : Nat} (hs : a.tmps.size = n) (hA : A = upTo ops m0 a vs k) (h : givenB ops m0 k j t = true) (ht : decide (t < n) = true) : A.eval (.tmp t) = vs j := by
  rw [hA]
  exact ev h (by rw [hs]; exact ht)
theorem size_upTo {m0 k : Nat} {a A : Act} {vs : Nat → Value} {n : Nat} (hs : a.tmps.size = n) (hA : A = upTo ops m0 a vs k) : A.tmps.size = n := by
  rw [hA]
  exact (upTo_size k).1.trans hs
theorem size_put {A : Act} {n : Nat} {d : Option Tmp} {v : Value} (hs : A.tmps.size = n) : (A.put d v).tmps.size = n := by
  cases d <;> simp [Act.put, hs]
theorem put_at {A : Act} {n : Nat} {t : Tmp} {v : Value} (hs : A.tmps.size = n) (ht : decide (t < n) = true) : (A.put (some t) v).eval (.tmp t) = v := by
  have h : t < A.tmps.size := by rw [hs]; exact of_decide_eq_true ht
  simp [Act.put, Act.eval, h]

/-- how many of the first m have not come up -/
def leftN (l : Array Bool) : Nat → Nat
  | 0 => 0
  | k + 1 => leftN l k + (if l.getD k true then 0 else 1)
theorem leftN_zero {l : Array Bool} : ∀ {m : Nat}, leftN l m = 0 → ∀ j, j < m → l.getD j true = true
  | 0, _, j, hj => absurd hj (by omega)
  | m + 1, h, j, hj => by
    rw [leftN] at h
    by_cases hjm : j = m
    · subst hjm
      cases hl : l.getD j true with
      | true => rfl
      | false => rw [hl] at h; simp at h
    · exact leftN_zero (Nat.add_eq_zero_iff.1 h).1 j (by omega)
theorem leftN_set {l : Array Bool} {i : Nat} (hi : l.getD i true = false) : ∀ {m : Nat}, leftN l m = leftN (l.setIfInBounds i true) m + (if i < m then 1 else 0)
  | 0 => by simp [leftN]
  | m + 1 => by
    rw [leftN, leftN, leftN_set hi (m := m)]
    by_cases him : i = m
    · subst him
      have hlt : i < l.size := by
        apply Classical.byContradiction
        intro h
        rw [Array.getD_eq_getD_getElem?, Array.getElem?_eq_none (by omega)] at hi
        cases hi
      have h2 : (l.setIfInBounds i true).getD i true = true := by simp
      rw [hi, h2]
      simp
    · rw [getD_set_ne true him]
      have : (i < m + 1) ↔ (i < m) := by omega
      simp only [this]
      omega
theorem leftN_pos {l : Array Bool} : ∀ {m : Nat}, 0 < leftN l m → ∃ k, k < m ∧ l.getD k true = false ∧ ∀ j, j < k → l.getD j true = true
  | 0, h => absurd h (by simp [leftN])
  | m + 1, h => by
    rcases Nat.eq_zero_or_pos (leftN l m) with h0 | h0
    · have h1 := leftN_zero h0
      rw [leftN, h0] at h
      refine ⟨m, Nat.lt_succ_self m, ?_, h1⟩
      cases hl : l.getD m true with
      | true => rw [hl] at h; simp at h
      | false => rfl
    · obtain ⟨k, h1, h2, h3⟩ := leftN_pos h0
      exact ⟨k, by omega, h2, h3⟩

/-- what stands while the first m operations come up -/
structure FactI (ops : Array Oper) (m0 m : Nat) (S : Nat → Value → World → Prop) (a : Act) (W : World) (l : Array Bool) (vs : Nat → Value) (b : Act) (w : World) : Prop where
  size : l.size = ops.size
  first : ∀ j, j < m0 → l.getD j true = true
  rest : ∀ j, m ≤ j → j < ops.size → l.getD j true = false
  later : Below W.heap.size W w
  done : ∀ j, j < m → l.getD j true = true → ∀ k, waits ops j k = true → l.getD k true = true
  facts : ∀ j, m0 ≤ j → j < m → l.getD j true = true → S j (vs j) w
  defers : b.defers = a.defers
  slots : b.tmps.size = a.tmps.size
  given : ∀ j t, m0 ≤ j → j < m → l.getD j true = true → dstOf ops j = some t → t < a.tmps.size → b.tmps[t]? = some (vs j)
  kept : ∀ t, (∀ j, m0 ≤ j → j < m → l.getD j true = true → dstOf ops j ≠ some t) → b.tmps[t]? = a.tmps[t]?

theorem firstM_get {n m j : Nat} (hj : j < n) : (firstM n m)[j]? = some (decide (j < m)) := by
  unfold firstM
  simp [hj]
theorem allBut_get {n m k j : Nat} (hj : j < n) : (allBut n m k)[j]? = some (decide (j < m) && decide (j ≠ k)) := by
  unfold allBut
  simp [hj]
theorem getD_eq {l : Array Bool} {j : Nat} (hj : j < l.size) (d d' : Bool) : l.getD j d = l.getD j d' := by
  simp [hj]

theorem fact_go {m0 m : Nat} {S : Nat → Value → World → Prop} {a : Act} {W : World} {fuel : Nat} (hB : factB ops m0 m = true)
    (hst : ∀ i v x y, m0 ≤ i → i < m → S i v x → Below x.heap.size x y → S i v y)
    (hop : ∀ i o, m0 ≤ i → i < m → ops[i]? = some o → ∀ vs w, Below W.heap.size W w → (∀ j, m0 ≤ j → waits ops i j = true → S j (vs j) w) → factOp P ops o (upTo ops m0 a vs i) w (S i))
    (hK : ∀ vs w, Below W.heap.size W w → (∀ j, m0 ≤ j → j < m → S j (vs j) w) → wpAny P .any ops Q fuel (firstM ops.size m) (upTo ops m0 a vs m) w) :
    ∀ (c : Nat) (l : Array Bool) (vs : Nat → Value) (b : Act) (w : World), leftN l m = c → FactI ops m0 m S a W l vs b w → wpAny P .any ops Q (fuel + c) l b w := by
  unfold factB at hB
  simp only [Bool.and_eq_true, decide_eq_true_eq] at hB
  obtain ⟨hsel, ⟨hm, hall, htail⟩, -⟩ := hB
  have hpre := fun i (h0 : m0 ≤ i) (hi : i < m) => (by
    have h := List.all_eq_true.1 hall i (List.mem_range.2 hi)
    rw [Bool.or_eq_true] at h
    rcases h with h | h
    · have := of_decide_eq_true h; omega
    · exact h : (((ops[i]?).map (fun o => (o.after.all fun e => !Region.binds .any e || decide (e.on < i)) &&
      ((o.looksAt ops).all fun t => (List.range ops.size).all fun j => decide (j < m0) || (dstOf ops j != some t || ((decide (j < i) && waits ops i j) || (decide (j = i) || (decide (i < j) && (waits ops j i || decide (m ≤ j))))))))).getD false &&
    (List.range m).all (fun j => decide (j < m0) || (decide (j = i) || (dstOf ops j).isNone || dstOf ops j != dstOf ops i))) = true)
  have hdist : ∀ i j t, m0 ≤ i → i < m → m0 ≤ j → j < m → i ≠ j → dstOf ops i = some t → dstOf ops j ≠ some t := fun i j t hi0 hi hj0 hj hne hdi hdj => by
    have h := hpre i hi0 hi
    rw [Bool.and_eq_true] at h
    have h2 := List.all_eq_true.1 h.2 j (List.mem_range.2 hj)
    rw [Bool.or_eq_true] at h2
    rcases h2 with h2 | h2
    · have := of_decide_eq_true h2; omega
    simp only [hdi, hdj, Option.isNone_some, bne_self_eq_false, Bool.or_false, decide_eq_true_eq] at h2
    exact hne h2.symm
  intro c
  induction c with
  | zero =>
    intro l vs b w hc hI
    have hl : l = firstM ops.size m := by
      apply Array.ext_getElem?
      intro j
      by_cases hj : j < ops.size
      · rw [firstM_get hj]
        have h1 : l[j]? = some (l.getD j true) := by simp [hI.size, hj]
        rw [h1]
        by_cases hjm : j < m
        · rw [leftN_zero hc j hjm]; simp [hjm]
        · rw [hI.rest j (by omega) hj]; simp [hjm]
      · rw [Array.getElem?_eq_none (by rw [hI.size]; omega), Array.getElem?_eq_none (by unfold firstM; simp; omega)]
    have hz := leftN_zero hc
    have hb : b = upTo ops m0 a vs m := by
      have hd := (upTo_size (ops := ops) (m0 := m0) (a := a) (vs := vs) m)
      have ht : b.tmps = (upTo ops m0 a vs m).tmps := by
        apply Array.ext_getElem?
        intro t
        by_cases htl : t < a.tmps.size
        · by_cases he : ∃ j, m0 ≤ j ∧ j < m ∧ dstOf ops j = some t
          · obtain ⟨j, hj0, hj, hdj⟩ := he
            rw [hI.given j t hj0 hj (hz j hj) hdj htl, upTo_at htl hj0 hdj m hj fun i hi0 hi hne => hdist j i t hj0 hj hi0 hi (Ne.symm hne) hdj]
          · rw [hI.kept t fun j hj0 hj _ hdj => he ⟨j, hj0, hj, hdj⟩, upTo_same m fun j hj0 hj hdj => he ⟨j, hj0, hj, hdj⟩]
        · have e1 : (upTo ops m0 a vs m).tmps[t]? = none := Array.getElem?_eq_none (by rw [hd.1]; exact Nat.not_lt.1 htl)
          have e2 : b.tmps[t]? = none := Array.getElem?_eq_none (by rw [hI.slots]; exact Nat.not_lt.1 htl)
          rw [e1, e2]
      cases b
      have hd2 := hI.defers
      cases hu : upTo ops m0 a vs m
      rw [hu] at ht hd
      simp only at ht hd hd2
      rw [ht, hd2, ← hd.2]
    rw [hl, hb]
    exact hK vs w hI.later fun j hj0 hj => hI.facts j hj0 hj (hz j hj)
  | succ c ih =>
    intro l vs b w hc hI
    have hleft : ∀ k, l.getD k true = false → m0 ≤ k := fun k hk => by
      apply Classical.byContradiction
      intro h
      have := hI.first k (by omega)
      rw [hk] at this
      cases this
    have hdone : ∀ j, j < m → l.getD j true = true → ∀ i, waits ops j i = true → l.getD i true = true := fun j hj hl i hw => hI.done j hj hl i hw
    have hne : ∀ i, i ∈ Region.ready .any ops l → i < m := fun i hi => by
      obtain ⟨h0, o, ho, hw⟩ := mem_ready.1 hi
      have hio : i < ops.size := (Array.getElem?_eq_some_iff.1 ho).1
      apply Classical.byContradiction
      intro him
      obtain ⟨k, hk, hlk, -⟩ := leftN_pos (l := l) (m := m) (by omega)
      have h1 := List.all_eq_true.1 htail i (List.mem_range.2 hio)
      rw [Bool.or_eq_true] at h1
      have hwj : ∀ j, waits ops i j = true → l.getD j false = true := fun j h5 => by
        unfold waits at h5
        rw [ho] at h5
        simp only [Option.map_some, Option.getD_some, Array.any_eq_true'] at h5
        obtain ⟨e, he, h5⟩ := h5
        rw [Bool.and_eq_true, beq_iff_eq] at h5
        rw [← h5.2]
        exact hw e he h5.1
      rcases h1 with h1 | h1
      · rw [Bool.or_eq_true] at h1
        rcases h1 with h1 | h1
        · exact him (by simpa using h1)
        · rw [List.any_eq_true] at h1
          obtain ⟨j, hj, h1⟩ := h1
          rw [Bool.and_eq_true, decide_eq_true_iff] at h1
          have h2 := hwj j h1.2
          have hjs := List.mem_range.1 hj
          rw [getD_eq (by rw [hI.size]; omega) false true, hI.rest j h1.1 hjs] at h2
          cases h2
      · have h2 := List.all_eq_true.1 h1 k (List.mem_range.2 hk)
        rw [Bool.or_eq_true] at h2
        rcases h2 with h2 | h2
        · have := of_decide_eq_true h2
          have := hleft k hlk
          omega
        rw [List.any_eq_true] at h2
        obtain ⟨j, hj, h2⟩ := h2
        rw [Bool.and_eq_true] at h2
        have hjm := List.mem_range.1 hj
        have h3 := blkF_unlisted (ops := ops) (m := m) hlk hdone m (Nat.le_refl _) j hjm h2.2
        have h4 := hwj j h2.1
        rw [getD_eq (by rw [hI.size]; omega) false true, h3] at h4
        cases h4
    refine ⟨fun h0 => ?_, fun i hi => ?_⟩
    · exfalso
      obtain ⟨k, hk, hlk, hbef⟩ := leftN_pos (l := l) (m := m) (by omega)
      have h := hpre k (hleft k hlk) hk
      rw [Bool.and_eq_true] at h
      cases ho : ops[k]? with
      | none => rw [ho] at h; simp at h
      | some o =>
        rw [ho] at h
        simp only [Option.map_some, Option.getD_some, Bool.and_eq_true] at h
        have h1 := h.1.1
        have : k ∈ Region.ready .any ops l := mem_ready.2 ⟨hlk, o, ho, fun e he hb => by
          have h2 := Array.all_eq_true_iff_forall_mem.1 h1 e he
          rw [hb] at h2
          simp only [Bool.not_true, Bool.false_or, decide_eq_true_eq] at h2
          have h3 := hbef e.on h2
          rw [getD_eq (by rw [hI.size]; omega) false true]
          exact h3⟩
        rw [h0] at this
        cases this
    · have him := hne i hi
      obtain ⟨hun, o, ho, hw⟩ := mem_ready.1 hi
      have hi0 := hleft i hun
      have hh := hpre i hi0 him
      rw [Bool.and_eq_true, ho] at hh
      simp only [Option.map_some, Option.getD_some, Bool.and_eq_true] at hh
      have hlook := hh.1.2
      have hio : i < ops.size := by omega
      have hwl : ∀ j, waits ops i j = true → j < m ∧ l.getD j true = true := fun j hj => by
        unfold waits at hj
        rw [ho] at hj
        simp only [Option.map_some, Option.getD_some, Array.any_eq_true'] at hj
        obtain ⟨e, he, hj⟩ := hj
        rw [Bool.and_eq_true, beq_iff_eq] at hj
        have h1 := hw e he hj.1
        have h2 := Array.all_eq_true_iff_forall_mem.1 hh.1.1 e he
        rw [hj.1] at h2
        simp only [Bool.not_true, Bool.false_or, decide_eq_true_eq] at h2
        rw [hj.2] at h1 h2
        exact ⟨by omega, by rw [getD_eq (by rw [hI.size]; omega) true false]; exact h1⟩
      have hagree : ∀ t ∈ o.looksAt ops, (upTo ops m0 a vs i).tmps[t]? = b.tmps[t]? := fun t ht => by
        have h1 := List.all_eq_true.1 hlook t ht
        have hcase : ∀ j, m0 ≤ j → dstOf ops j = some t → (j < i ∧ waits ops i j = true) ∨ (i ≤ j ∧ l.getD j true = false) := fun j hj0 hdj => by
          have hjs : j < ops.size := by
            apply Classical.byContradiction
            intro h
            unfold dstOf at hdj
            rw [Array.getElem?_eq_none (by omega)] at hdj
            cases hdj
          have h2 := List.all_eq_true.1 h1 j (List.mem_range.2 hjs)
          have hnj : decide (j < m0) = false := decide_eq_false (by omega)
          simp only [hnj, hdj, bne_self_eq_false, Bool.false_or, Bool.or_eq_true, Bool.and_eq_true, decide_eq_true_eq] at h2
          rcases h2 with h2 | h2 | ⟨h2, h3 | h3⟩
          · exact .inl h2
          · exact .inr ⟨by omega, by rw [h2]; exact hun⟩
          · refine .inr ⟨by omega, ?_⟩
            by_cases hjm : j < m
            · cases hlj : l.getD j true with
              | false => rfl
              | true =>
                have h4 := hI.done j hjm hlj i h3
                rw [hun] at h4
                cases h4
            · exact hI.rest j (by omega) hjs
          · exact .inr ⟨by omega, hI.rest j h3 hjs⟩
        by_cases he : ∃ j, m0 ≤ j ∧ dstOf ops j = some t ∧ j < i
        · obtain ⟨j, hj0, hdj, hji⟩ := he
          rcases hcase j hj0 hdj with ⟨-, h2⟩ | ⟨h2, -⟩
          · obtain ⟨h3, h4⟩ := hwl j h2
            by_cases htl : t < a.tmps.size
            · rw [hI.given j t hj0 h3 h4 hdj htl, upTo_at htl hj0 hdj i hji fun k hk0 hk hne => hdist j k t hj0 h3 hk0 (by omega) (Ne.symm hne) hdj]
            · have e1 : (upTo ops m0 a vs i).tmps[t]? = none := Array.getElem?_eq_none (by rw [(upTo_size (ops := ops) (m0 := m0) (a := a) (vs := vs) i).1]; exact Nat.not_lt.1 htl)
              have e2 : b.tmps[t]? = none := Array.getElem?_eq_none (by rw [hI.slots]; exact Nat.not_lt.1 htl)
              rw [e1, e2]
          · omega
        · rw [upTo_same i fun j hj0 hj hdj => he ⟨j, hj0, hdj, hj⟩, hI.kept t fun j hj0 hj hlj hdj => ?_]
          rcases hcase j hj0 hdj with ⟨h2, -⟩ | ⟨-, h3⟩
          · exact he ⟨j, hj0, hdj, h2⟩
          · rw [h3] at hlj
            cases hlj
      refine wpOp_of_fact ho (factOp_agree (Region.noSelect_spec hsel i o · · ho) hagree (hop i o hi0 him ho vs w hI.later fun j hj0 hj => hI.facts j hj0 (hwl j hj).1 (hwl j hj).2)) fun v w' hb hr => ?_
      refine ih _ (fun j => if j = i then v else vs j) _ w' (by have := leftN_set (m := m) hun; rw [if_pos him] at this; omega) ?_
      have hil : i < l.size := by rw [hI.size]; exact hio
      have hset : ∀ j, (l.setIfInBounds i true).getD j true = if j = i then true else l.getD j true := fun j => by
        by_cases hji : j = i
        · subst hji; simp
        · rw [if_neg hji, getD_set_ne true (Ne.symm hji)]
      have hdo : dstOf ops i = o.dst := by unfold dstOf; rw [ho]; rfl
      refine ⟨by simp [hI.size], fun j h1 => ?_, fun j h1 h2 => ?_, hI.later.trans (hb.mono hI.later.size), fun j h1 h2 k hk => ?_, fun j h0 h1 h2 => ?_, ?_, ?_, fun j t h0 h1 h2 h3 h4 => ?_, fun t h1 => ?_⟩
      · rw [hset, if_neg (by omega)]
        exact hI.first j h1
      · rw [hset, if_neg (by omega)]
        exact hI.rest j h1 h2
      · rw [hset] at h2
        rw [hset]
        split
        · rfl
        · by_cases hji : j = i
          · subst hji; exact (hwl k hk).2
          · rw [if_neg hji] at h2; exact hI.done j h1 h2 k hk
      · rw [hset] at h2
        by_cases hji : j = i
        · subst hji; simpa using hr
        · simp only [if_neg hji] at h2 ⊢
          exact hst j _ w w' h0 h1 (hI.facts j h0 h1 h2) hb
      · cases o.dst <;> exact hI.defers
      · cases hd : o.dst <;> simp [Act.put, hI.slots]
      · rw [hset] at h2
        by_cases hji : j = i
        · subst hji
          rw [hdo] at h3
          simp [Act.put, h3, hI.slots, h4]
        · simp only [if_neg hji] at h2 ⊢
          have h5 := hI.given j t h0 h1 h2 h3 h4
          cases hd : o.dst with
          | none => exact h5
          | some u =>
            have hne : u ≠ t := fun e => hdist i j t hi0 him h0 h1 (Ne.symm hji) (by rw [hdo, hd, e]) h3
            simp [Act.put, Array.getElem?_setIfInBounds_ne hne]
            simpa using h5
      · have h2 := hI.kept t fun j hj0 hj hlj hdj => h1 j hj0 hj ((hset j).trans (by by_cases hji : j = i <;> simp [hji, hlj])) hdj
        have h3 := h1 i hi0 him (by rw [hset, if_pos rfl])
        cases hd : o.dst with
        | none => exact h2
        | some u =>
          have hne : u ≠ t := fun e => h3 (by rw [hdo, hd, e])
          simp [Act.put, Array.getElem?_setIfInBounds_ne hne]
          simpa using h2

theorem leftN_first {n m0 : Nat} (h : m0 ≤ n) : ∀ m, m0 ≤ m → m ≤ n → leftN (firstM n m0) m = m - m0
  | 0, h1, _ => by simp [leftN]
  | m + 1, h1, h2 => by
    rw [leftN]
    have hg : (firstM n m0).getD m true = decide (m < m0) := by
      rw [Array.getD_eq_getD_getElem?, firstM_get (by omega)]
      rfl
    rw [hg]
    by_cases hm : m0 ≤ m
    · rw [leftN_first h m hm (by omega), decide_eq_false (by omega : ¬ m < m0)]
      simp only [Bool.false_eq_true, if_false]
      omega
    · have : m + 1 = m0 := by omega
      have hz : leftN (firstM n m0) m = 0 := by
        have key : ∀ k, k ≤ m → leftN (firstM n m0) k = 0 := by
          intro k
          induction k with
          | zero => intro _; rfl
          | succ k ih =>
            intro hk
            rw [leftN, ih (by omega)]
            have : (firstM n m0).getD k true = true := by
              rw [Array.getD_eq_getD_getElem?, firstM_get (by omega)]
              simp; omega
            simp [this]
        exact key m (Nat.le_refl _)
      rw [hz, decide_eq_true (by omega : m < m0)]
      simp only [if_true]
      omega

/-- what is known of a value, and stays so -/
def Fact : Type := { R : Value → World → Prop // ∀ v x y, R v x → Below x.heap.size x y → R v y }
def isV (c : Value) : Fact := ⟨fun v _ => v = c, fun _ _ _ h _ => h⟩
def anyV : Fact := ⟨fun _ _ => True, fun _ _ _ h _ => h⟩
def slV (k : IntKind) (xs : List Int) : Fact := ⟨fun v w => Sl k w v xs, fun _ _ _ h hb => h.below hb⟩
def ownV (k : IntKind) (e base : Nat) (xs : List Int) : Fact := ⟨fun v w => Own k e base w v xs, fun _ _ _ h hb => h.below hb⟩
/-- the obligations, one for each operation from number k on -/
def Obls (P : Program) (ops : Array Oper) (m0 : Nat) (a : Act) (W : World) (F : List Fact) : Nat → List Oper → List Fact → Prop
  | k, o :: l, R :: r => (∀ vs A w, A = upTo ops m0 a vs k → Below W.heap.size W w → (∀ j, m0 ≤ j → waits ops k j = true → (F.getD (j - m0) anyV).1 (vs j) w) → factOp P ops o A w R.1) ∧ Obls P ops m0 a W F (k + 1) l r
  | _, _, _ => True
theorem obls_cons {m0 k : Nat} {a : Act} {W : World} {F : List Fact} {o : Oper} {l : List Oper} {R : Fact} {r : List Fact} (h : ∀ vs A w, A = upTo ops m0 a vs k → Below W.heap.size W w → (∀ j, m0 ≤ j → waits ops k j = true → (F.getD (j - m0) anyV).1 (vs j) w) → factOp P ops o A w R.1)
    (ht : Obls P ops m0 a W F (k + 1) l r) : Obls P ops m0 a W F k (o :: l) (R :: r) := ⟨h, ht⟩
theorem obls_nil {m0 k : Nat} {a : Act} {W : World} {F : List Fact} {l : List Oper} : Obls P ops m0 a W F k l [] := by cases l <;> trivial
/-- what is known in the end -/
def Knows (vs : Nat → Value) (w : World) : Nat → List Fact → Prop
  | _, [] => True
  | k, R :: r => R.1 (vs k) w ∧ Knows vs w (k + 1) r
theorem obls_at {m0 : Nat} {a : Act} {W : World} {F : List Fact} : ∀ {k : Nat} {l : List Oper} {r : List Fact}, Obls P ops m0 a W F k l r → ∀ i o R, l[i]? = some o → r[i]? = some R →
    ∀ vs w, Below W.heap.size W w → (∀ j, m0 ≤ j → waits ops (k + i) j = true → (F.getD (j - m0) anyV).1 (vs j) w) → factOp P ops o (upTo ops m0 a vs (k + i)) w R.1
  | _, [], _, _, i, o, R, ho, _ => by simp at ho
  | _, _ :: _, [], _, i, o, R, _, hR => by simp at hR
  | k, o1 :: l, R1 :: r, h, 0, o, R, ho, hR => by
    simp only [List.getElem?_cons_zero, Option.some.injEq] at ho hR
    subst ho hR
    intro vs w
    exact h.1 vs _ w rfl
  | k, o1 :: l, R1 :: r, h, i + 1, o, R, ho, hR => by
    simp only [List.getElem?_cons_succ] at ho hR
    have := obls_at h.2 i o R ho hR
    rw [show k + 1 + i = k + (i + 1) by omega] at this
    exact this
theorem knows_of {vs : Nat → Value} {w : World} : ∀ (k : Nat) (r : List Fact), (∀ i (R : Fact), r[i]? = some R → R.1 (vs (k + i)) w) → Knows vs w k r
  | _, [], _ => trivial
  | k, R :: r, h => ⟨h 0 R rfl, knows_of (k + 1) r fun i R' hi => by
    have := h (i + 1) R' (by simpa using hi)
    rwa [show k + (i + 1) = k + 1 + i by omega] at this⟩
/-- OPERATIONS m0 TO m, BEHIND THE FIRST m0 -/
theorem any_facts {l : List Oper} {a : Act} {w : World} {fuel m0 : Nat} (F : List Fact) (hB : factB l.toArray m0 (m0 + F.length) = true) (hO : Obls P l.toArray m0 a w F m0 (l.drop m0) F)
    (hK : ∀ vs w', Below w.heap.size w w' → Knows vs w' m0 F → wpAny P .any l.toArray Q fuel (firstM l.toArray.size (m0 + F.length)) (upTo l.toArray m0 a vs (m0 + F.length)) w') : wpAny P .any l.toArray Q (fuel + F.length) (firstM l.toArray.size m0) a w := by
  have hm : m0 + F.length ≤ l.toArray.size := by
    unfold factB at hB
    simp only [Bool.and_eq_true, decide_eq_true_eq] at hB
    exact hB.2.1.1
  have hW0 : ∀ j i, j < m0 → waits l.toArray j i = true → i < m0 := fun j i hj hw => by
    unfold factB at hB
    simp only [Bool.and_eq_true, decide_eq_true_eq] at hB
    have h1 := List.all_eq_true.1 hB.2.2 j (List.mem_range.2 hj)
    unfold waits at hw
    cases ho : l.toArray[j]? with
    | none => rw [ho] at hw; simp at hw
    | some o =>
      rw [ho] at h1 hw
      simp only [Option.map_some, Option.getD_some, Array.any_eq_true'] at h1 hw
      obtain ⟨e, he, hw⟩ := hw
      rw [Bool.and_eq_true, beq_iff_eq] at hw
      have h2 := Array.all_eq_true_iff_forall_mem.1 h1 e he
      rw [hw.1] at h2
      simp only [Bool.not_true, Bool.false_or, decide_eq_true_eq] at h2
      omega
  have hF : ∀ i, m0 ≤ i → i < m0 + F.length → F[i - m0]? = some (F.getD (i - m0) anyV) := fun i h0 hi => by
    rw [List.getD_eq_getElem?_getD, List.getElem?_eq_getElem (by omega)]
    rfl
  have hc : leftN (firstM l.toArray.size m0) (m0 + F.length) = F.length := by rw [leftN_first (by omega) _ (by omega) hm]; omega
  refine fact_go (S := fun j => (F.getD (j - m0) anyV).1) hB (fun i v x y _ _ h hb => (F.getD (i - m0) anyV).2 v x y h hb) (fun i o h0 hi ho vs w' hw hd => ?_) (fun vs w' hw hd => hK vs w' hw (knows_of m0 F fun i R hi => ?_)) F.length _ (fun _ => undef) a w hc
    ⟨by unfold firstM; simp, fun j hj => ?_, fun j h1 h2 => ?_, Below.refl _ _, fun j hj hl i hw => ?_, fun j h0 hj hl => ?_, rfl, rfl, fun j t h0 hj hl => ?_, fun _ _ => rfl⟩
  · have h1 := obls_at hO (i - m0) o (F.getD (i - m0) anyV) (by rw [List.getElem?_drop, show m0 + (i - m0) = i by omega]; simpa using ho) (hF i h0 hi) vs w' hw
    rw [show m0 + (i - m0) = i by omega] at h1
    exact h1 hd
  · have hil : i < F.length := (List.getElem?_eq_some_iff.1 hi).1
    have h1 := hd (m0 + i) (by omega) (by omega)
    rw [show m0 + i - m0 = i by omega, List.getD_eq_getElem?_getD, hi] at h1
    exact h1
  · rw [Array.getD_eq_getD_getElem?, firstM_get (by omega)]
    simpa using hj
  · rw [Array.getD_eq_getD_getElem?, firstM_get h2]
    simp; omega
  · have hj0 : j < m0 := by
      rw [Array.getD_eq_getD_getElem?, firstM_get (by omega)] at hl
      simpa using hl
    have := hW0 j i hj0 hw
    rw [Array.getD_eq_getD_getElem?, firstM_get (by omega)]
    simpa using this
  all_goals (
    exfalso
    rw [Array.getD_eq_getD_getElem?, firstM_get (by omega)] at hl
    simp at hl
    omega)
theorem firstM_zero (n : Nat) : firstM n 0 = Array.replicate n false := by
  apply Array.ext_getElem?
  intro j
  by_cases hj : j < n
  · rw [firstM_get hj]
    simp [hj]
  · rw [Array.getElem?_eq_none (by unfold firstM; simp; omega), Array.getElem?_eq_none (by simp; omega)]
/-- the region begins with them -/
theorem region_facts {id : Nat} {l : List Oper} {a : Act} {w : World} (F : List Fact) (fuel : Nat) (hm : P.follows .mixedOrders = true) (hf : l.length = fuel + F.length) (hB : factB l.toArray 0 F.length = true) (hO : Obls P l.toArray 0 a w.drew F 0 l F)
    (hK : ∀ vs w', Below w.drew.heap.size w.drew w' → Knows vs w' 0 F → wpAny P .any l.toArray Q fuel (firstM l.toArray.size F.length) (upTo l.toArray 0 a vs F.length) w') : (Code.region id l.toArray true).wp P Q a w := by
  have h := any_facts (P := P) (Q := Q) (l := l) (a := a) (w := w.drew) (fuel := fuel) (m0 := 0) F (by simpa using hB) hO (by simpa using hK)
  refine wp_region_any hm ?_
  rw [firstM_zero] at h
  have hs : l.toArray.size = fuel + F.length := by simpa using hf
  rw [hs] at h ⊢
  exact h
/-- all have come up -/
theorem any_over {l : List Oper} {m : Nat} (hm : m = l.length) {a : Act} {w : World} (h : Q .normal a w) : wpAny P .any l.toArray Q 0 (firstM l.toArray.size m) a w := by
  refine ⟨?_, h⟩
  apply List.eq_nil_iff_forall_not_mem.2
  intro i hi
  obtain ⟨h0, o, ho, -⟩ := mem_ready.1 hi
  have hio : i < l.toArray.size := (Array.getElem?_eq_some_iff.1 ho).1
  rw [Array.getD_eq_getD_getElem?, firstM_get hio] at h0
  simp at h0 hio
  omega
/-- how the rest goes on behind one operation told by a list's law -/
def goesOn (P : Program) (ops : Array Oper) (Q : Exit → Act → World → Prop) (fuel m : Nat) : Exit → Act → World → Prop
  | .normal, a, w => wpAny P .any ops Q fuel (firstM ops.size m) a w
  | e, a, w => Q e a w
theorem firstM_succ {n m : Nat} : (firstM n m).setIfInBounds m true = firstM n (m + 1) := by
  apply Array.ext_getElem?
  intro j
  by_cases hj : j < n
  · rw [firstM_get hj]
    by_cases hjm : m = j
    · subst hjm
      have : m < (firstM n m).size := by unfold firstM; simpa using hj
      rw [Array.getElem?_setIfInBounds_self_of_lt this]
      simp
    · rw [Array.getElem?_setIfInBounds_ne hjm, firstM_get hj]
      simp; omega
  · rw [Array.getElem?_eq_none (by unfold firstM; simp; omega), Array.getElem?_eq_none (by unfold firstM; simp; omega)]
/-- one operation alone may come up: by a list's law -/
theorem any_step {l : List Oper} {a : Act} {w : World} {fuel m : Nat} {o : Oper} (ho : l[m]? = some o) (hr : Region.ready .any l.toArray (firstM l.toArray.size m) = [m])
    (h : wpList P l.toArray (goesOn P l.toArray Q fuel (m + 1)) [o] a w) : wpAny P .any l.toArray Q (fuel + 1) (firstM l.toArray.size m) a w := by
  have hl : LetsOut (goesOn P l.toArray Q fuel (m + 1)) → LetsOut Q := fun ⟨a, w, h⟩ => ⟨a, w, h⟩
  refine wpAny_all hr (by simp) fun j hj => ?_
  simp only [List.mem_singleton] at hj
  subst hj
  rw [firstM_succ]
  have ho' : l.toArray[j]? = some o := by simpa using ho
  unfold wpOp
  simp only [ho']
  unfold wpList at h
  split
  · rename_i hw
    rw [if_pos hw] at h
    rcases h with h | ⟨h1, h2⟩
    · left
      unfold Oper.wp at *
      generalize (execOp a.eval o).run P w = r at *
      cases r with
      | ok n w' =>
        cases n <;> simp only [Oper.upon] at h ⊢
        case value u => exact h
        case skip => exact h
        case defer d => exact h
        case enter f args =>
          refine h.mono fun e w'' he => ?_
          cases e with
          | returned u => exact he
          | panicked c => exact he
          | outgrown => exact hl he
        case row row args => exact Rows.mono h fun _ _ he => he
      | halt x w' =>
        cases x <;> simp only [Oper.upon] at h ⊢
        case panic u => exact h
    · exact .inr ⟨h1, hl h2⟩
  · rename_i hw
    rw [if_neg hw] at h
    exact h
theorem goesOn_normal {l : List Oper} {fuel m : Nat} {a : Act} {w : World} (h : wpAny P .any l.toArray Q fuel (firstM l.toArray.size m) a w) : goesOn P l.toArray Q fuel m .normal a w := h
variable {o : Oper} {a : Act} {w w' : World} {R : Value → World → Prop} {x : Operand} {v : Value}
theorem fact_val (hg : o.guard = none) (he : (execOp a.eval o).run P w = .ok (.value v) w) (hr : R v w) : factOp P ops o a w R := by
  unfold factOp
  rw [if_pos (by simp [Region.wanted, hg]), he]
  exact ⟨Below.refl _ _, hr⟩
theorem fact_new (hg : o.guard = none) (he : (execOp a.eval o).run P w = .ok (.value v) w') (hb : Below w.heap.size w w') (hr : R v w') : factOp P ops o a w R := by
  unfold factOp
  rw [if_pos (by simp [Region.wanted, hg]), he]
  exact ⟨hb, hr⟩
theorem fact_call {f : FuncId} {args : Array Value} (hg : o.guard = none) (he : (execOp a.eval o).run P w = .ok (.enter f args) w) (hc : Calls P f args w fun e w'' => ∃ v, e = .returned v ∧ R v w'' ∧ Below w.heap.size w w'') : factOp P ops o a w R := by
  unfold factOp
  rw [if_pos (by simp [Region.wanted, hg]), he]
  refine hc.mono ?_
  rintro e w'' ⟨v, rfl, hr, hb⟩
  exact ⟨v, rfl, hb, hr⟩
theorem exec_moveF (hop : o.op = .move x) (hx : a.eval x = v) : (execOp a.eval o).run P w = .ok (.value v) w := by
  unfold execOp
  simp [hop, hx]
theorem exec_assign (hop : o.op = .assign x) (hx : a.eval x = v) : (execOp a.eval o).run P w = .ok (.value v) w := by
  unfold execOp
  simp [hop, hx]
theorem exec_extract {n : Nat} {u : Array Value} (hop : o.op = .extract x n) (hx : a.eval x = .tuple u) (hu : u[n]? = some v) : (execOp a.eval o).run P w = .ok (.value v) w := by
  unfold execOp
  simp [hop, hx, hu, Instr.extract]
/-- a call of a function of the program -/
theorem exec_callF {f : Nat} {fn : Func} {c : Code} {xs : Array Operand} {ts : Array TypeId} {args : List Value} (hop : o.op = .call { callee := .value (.func f), args := xs, argTypes := ts }) (hx : xs.toList.map a.eval = args)
    (hf : P.funcs[f]? = some fn) (hname : (fn.name == "runtime.NumGoroutine") = false) (hb : fn.body = some c) : (execOp a.eval o).run P w = .ok (.enter f args.toArray) w := by
  have he : ∀ args w, (callFunc f args).run P w = .ok (.enter f args) w := enters_of hf hname hb
  have hx : xs.map a.eval = args.toArray := by apply Array.ext'; rw [Array.toList_map, hx]
  have h2 := he (xs.map a.eval) w
  have hf : a.eval (.func f) = .func (.func f) #[] #[] := rfl
  unfold execOp
  rw [hx] at h2
  simp [hop, resolve, hf, invoke, Deferred.ofValue, hx, h2]
/-- a literal slice of numbers -/
theorem exec_lit {k : IntKind} {t e : TypeId} {n bytes : Nat} {ps : Array (Nat × Operand)} {xs : List Int} (hop : o.op = .buildSlice t n ps) (ht : P.underlying t = some (.slice e)) (hi : (P.info? e).map (fun i => (i.zero, i.size, i.bytes)) = some (some (.int k 0), 1, bytes))
    (hx : (ps.toList.map fun p => (p.1, a.eval p.2)) = ((xs.map (Value.int k)).zipIdx 0).map fun x => (x.2, x.1)) (hn : n = xs.length) (h0 : 0 < n) (h1 : n ≤ 1000) :
    (execOp a.eval o).run P w = .ok (.value (.slice (some ⟨w.heap.size, 0, none⟩) n n)) (w.alloc (.cells (xs.map (Value.int k)).toArray e)) := by
  obtain ⟨i, hi, hz, hs, _⟩ := info_parts hi
  have hrun := run_buildSlice (P := P) w t e n (ps.map fun (i, x) => (i, a.eval x)) (xs.map (Value.int k)).toArray i (.int k 0) ht hi hz (by rw [hs]; omega) (by rw [hs]; omega) (by
    rw [hs, Array.toList_map, hx]
    exact Go.Great.fill_flat (xs.map (Value.int k)) _ (fun v hv => by obtain ⟨y, _, rfl⟩ := List.mem_map.1 hv; rfl) (by simp [hn]))
  unfold execOp
  simp only [hop, Sem.run_bind, hrun, Result.andThen_ok, Sem.run_pure]
theorem exec_binF {b : BinOp} {y : Operand} {t t2 : TypeId} {u u2 : Value} (hop : o.op = .binOp b t x y t2) (hx : a.eval x = u) (hy : a.eval y = u2) (h : (do eqGuard b t x y u u2; binOp b t u u2 : Sem Value).run P w = .ok v w) : (execOp a.eval o).run P w = .ok (.value v) w := by
  unfold execOp
  simp only [hop, hx, hy, Sem.run_bind] at h ⊢
  rw [h]
  rfl
theorem exec_convF {t t2 : TypeId} {u : Value} (hop : o.op = .convert t t2 x) (hx : a.eval x = u) (h : (convert t t2 u).run P w = .ok v w) : (execOp a.eval o).run P w = .ok (.value v) w := by
  unfold execOp
  simp only [hop, hx, Sem.run_bind, h]
  rfl
theorem exec_fieldF {t : TypeId} {i : Nat} {u : Value} (hop : o.op = .fieldAddr t x i) (hx : a.eval x = u) (h : (Instr.fieldAt t u i).run P w = .ok v w) : (execOp a.eval o).run P w = .ok (.value v) w := by
  unfold execOp
  simp only [hop, hx, Sem.run_bind, h]
  rfl
theorem exec_indexF {t : TypeId} {y : Operand} {u u2 : Value} (hop : o.op = .indexAddr t x y) (hx : a.eval x = u) (hy : a.eval y = u2) (h : (Instr.indexAt t u u2).run P w = .ok v w) : (execOp a.eval o).run P w = .ok (.value v) w := by
  unfold execOp
  simp only [hop, hx, hy, Sem.run_bind, h]
  rfl
theorem exec_unF {b : UnOp} {t : TypeId} {u : Value} (hop : o.op = .unOp b t x) (hx : a.eval x = u) (h : (Op.unary b u).run P w = .ok v w) : (execOp a.eval o).run P w = .ok (.value v) w := by
  unfold execOp
  simp only [hop, hx, Sem.run_bind, h]
  rfl
end
end Go.Proofs.YtidjjaginindoaaGreat
