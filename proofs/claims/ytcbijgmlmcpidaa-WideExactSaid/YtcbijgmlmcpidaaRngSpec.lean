/- Tables of ranges and two-stage tables as plain functions: what a flat table says, what a packed one says, how one is made of the other. No conditions. -/
import Derived.Test.YtcbijgmlmcpidaaBase
namespace Go.Proofs.Ytcbijgmlmcpidaa

structure Rg where
  f : Int
  t : Int
  v : Int
deriving DecidableEq, Inhabited

def maxS : Int := 1114111
/-- the first range that has c -/
def lookS : List Rg → Int → Int
  | [], _ => 0
  | r :: l, c => if r.f ≤ c ∧ c ≤ r.t then r.v else lookS l c
/-- one range of a right table, behind one that ends at p -/
def okR (p : Int) (r : Rg) : Prop := 0 ≤ r.f ∧ r.f ≤ maxS ∧ r.f ≤ r.t ∧ r.t ≤ maxS ∧ 1 ≤ r.v ∧ r.v ≤ 65535 ∧ p < r.f
def okL : Int → List Rg → Prop
  | _, [] => True
  | p, r :: l => okR p r ∧ okL r.t l
instance (p : Int) (r : Rg) : Decidable (okR p r) := by unfold okR; exact inferInstance
instance decOkL : ∀ (p : Int) (l : List Rg), Decidable (okL p l)
  | _, [] => .isTrue trivial
  | p, r :: l => by
    unfold okL
    have := decOkL r.t l
    exact inferInstance
def flatS (l : List Rg) : Bool := decide (l.length ≤ 2000 ∧ okL (-1) l)

theorem lookS_zero : ∀ {l : List Rg} {p c : Int}, okL p l → c ≤ p → lookS l c = 0
  | [], _, _, _, _ => rfl
  | r :: l, p, c, h, hc => by
    have h1 := h.1
    unfold okR at h1
    rw [lookS, if_neg (by omega)]
    exact lookS_zero h.2 (by omega)
/-- of a right table a number is in one range alone -/
theorem lookS_mem : ∀ {l : List Rg} {p c : Int}, okL p l → ∀ {r : Rg}, r ∈ l → r.f ≤ c → c ≤ r.t → lookS l c = r.v
  | [], _, _, _, _, hm, _, _ => by cases hm
  | x :: l, p, c, h, r, hm, h1, h2 => by
    rcases List.mem_cons.1 hm with rfl | hm
    · rw [lookS, if_pos ⟨h1, h2⟩]
    · have hlow : ∀ {l : List Rg} {p : Int}, okL p l → ∀ {r : Rg}, r ∈ l → p < r.f := by
        intro l
        induction l with
        | nil => intro _ _ _ hm; cases hm
        | cons y l ih =>
          intro p h r hm
          have hy := h.1
          unfold okR at hy
          rcases List.mem_cons.1 hm with rfl | hm
          · omega
          · have := ih h.2 hm; omega
      have := hlow h.2 hm
      rw [lookS, if_neg (by omega)]
      exact lookS_mem h.2 hm h1 h2
theorem lookS_some : ∀ {l : List Rg} {c : Int}, lookS l c ≠ 0 → ∃ r ∈ l, r.f ≤ c ∧ c ≤ r.t ∧ lookS l c = r.v
  | [], _, h => absurd rfl h
  | x :: l, c, h => by
    rw [lookS] at h ⊢
    split
    · rename_i hx
      exact ⟨x, List.mem_cons_self .., hx.1, hx.2, rfl⟩
    · rename_i hx
      rw [if_neg hx] at h
      obtain ⟨r, hr, h1, h2, h3⟩ := lookS_some h
      exact ⟨r, List.mem_cons_of_mem _ hr, h1, h2, h3⟩
theorem okL_mem : ∀ {l : List Rg} {p : Int}, okL p l → ∀ {r : Rg}, r ∈ l → 0 ≤ r.f ∧ r.f ≤ r.t ∧ r.t ≤ maxS ∧ 1 ≤ r.v ∧ r.v ≤ 65535
  | [], _, _, _, hm => by cases hm
  | x :: l, p, h, r, hm => by
    rcases List.mem_cons.1 hm with rfl | hm
    · have := h.1; unfold okR at this; omega
    · exact okL_mem h.2 hm

/-! ### the packed table of what g says -/
def blk (g : Nat → Int) (k : Nat) : List Int := (List.range 256).map fun i => g (256 * k + i)
theorem blk_len (g : Nat → Int) (k : Nat) : (blk g k).length = 256 := by simp [blk]
theorem blk_at (g : Nat → Int) (k i : Nat) (h : i < 256) : (blk g k).getD i 0 = g (256 * k + i) := by simp [blk, List.getD_eq_getElem?_getD, h]
/-- which block, block by block -/
def packN (g : Nat → Int) : Nat → List Nat × List (List Int)
  | 0 => ([], [])
  | k + 1 => ((packN g k).1 ++ [(packN g k).2.idxOf (blk g k)], if blk g k ∈ (packN g k).2 then (packN g k).2 else (packN g k).2 ++ [blk g k])
theorem packN_ext {g h : Nat → Int} : ∀ {n : Nat}, (∀ c, c < 256 * n → g c = h c) → packN g n = packN h n
  | 0, _ => rfl
  | k + 1, e => by
    have hb : blk g k = blk h k := by
      unfold blk
      apply List.map_congr_left
      intro i hi
      exact e _ (by have := List.mem_range.1 hi; omega)
    have ih := packN_ext (g := g) (h := h) (n := k) (fun c hc => e c (by omega))
    rw [packN, packN, ih, hb]
structure PackOk (g : Nat → Int) (n : Nat) (p : List Nat × List (List Int)) : Prop where
  len : p.1.length = n
  nodup : p.2.Nodup
  each : ∀ b ∈ p.2, b.length = 256
  at_ : ∀ k, k < n → p.1.getD k 0 < p.2.length ∧ p.2.getD (p.1.getD k 0) [] = blk g k
  from_ : ∀ b ∈ p.2, ∃ k, k < n ∧ b = blk g k
theorem packN_ok (g : Nat → Int) : ∀ n, PackOk g n (packN g n)
  | 0 => ⟨rfl, List.nodup_nil, fun _ h => (nomatch h), fun _ h => absurd h (by omega), fun _ h => (nomatch h)⟩
  | n + 1 => by
    have ih := packN_ok g n
    rw [packN]
    generalize packN g n = p at ih
    obtain ⟨ix, bs⟩ := p
    have h1 := ih.len
    simp only at h1
    by_cases hm : blk g n ∈ bs
    · refine ⟨by simp [h1], by simp only [if_pos hm]; exact ih.nodup, by simp only [if_pos hm]; exact ih.each, fun k hk => ?_, fun b hb => ?_⟩
      · simp only [if_pos hm]
        rcases Nat.lt_or_ge k n with hl | hl
        · have := ih.at_ k hl
          rwa [show (ix ++ [bs.idxOf (blk g n)]).getD k 0 = ix.getD k 0 by simp [List.getD_eq_getElem?_getD, List.getElem?_append_left (show k < ix.length by omega)]]
        · obtain rfl : k = n := by omega
          rw [show (ix ++ [bs.idxOf (blk g k)]).getD k 0 = bs.idxOf (blk g k) by simp [List.getD_eq_getElem?_getD, ← h1]]
          have hlt := List.idxOf_lt_length_iff.2 hm
          exact ⟨hlt, by rw [List.getD_eq_getElem?_getD, List.getElem?_eq_getElem hlt]; simp⟩
      · simp only [if_pos hm] at hb
        obtain ⟨k, hk, he⟩ := ih.from_ b hb
        exact ⟨k, by omega, he⟩
    · refine ⟨by simp [h1], by
        simp only [if_neg hm]
        rw [List.nodup_append]
        exact ⟨ih.nodup, by simp, fun a ha b hb => by
          simp only [List.mem_singleton] at hb
          subst hb
          rintro rfl
          exact hm ha⟩, by
        simp only [if_neg hm]
        intro b hb
        rcases List.mem_append.1 hb with hb | hb
        · exact ih.each b hb
        · simp only [List.mem_singleton] at hb
          subst hb
          exact blk_len g n, fun k hk => ?_, fun b hb => ?_⟩
      · simp only [if_neg hm]
        rcases Nat.lt_or_ge k n with hl | hl
        · have := ih.at_ k hl
          rw [show (ix ++ [bs.idxOf (blk g n)]).getD k 0 = ix.getD k 0 by simp [List.getD_eq_getElem?_getD, List.getElem?_append_left (show k < ix.length by omega)]]
          simp only at this
          exact ⟨by rw [List.length_append]; exact Nat.lt_of_lt_of_le this.1 (Nat.le_add_right _ _), by rw [List.getD_eq_getElem?_getD, List.getElem?_append_left this.1, ← List.getD_eq_getElem?_getD]; exact this.2⟩
        · obtain rfl : k = n := by omega
          rw [show (ix ++ [bs.idxOf (blk g k)]).getD k 0 = bs.idxOf (blk g k) by simp [List.getD_eq_getElem?_getD, ← h1], List.idxOf_eq_length hm]
          exact ⟨by simp, by simp [List.getD_eq_getElem?_getD]⟩
      · simp only [if_neg hm] at hb
        rcases List.mem_append.1 hb with hb | hb
        · obtain ⟨k, hk, he⟩ := ih.from_ b hb
          exact ⟨k, by omega, he⟩
        · simp only [List.mem_singleton] at hb
          exact ⟨n, by omega, hb⟩

/-! ### blocks, one behind the other -/
theorem flat_len : ∀ {bs : List (List Int)}, (∀ b ∈ bs, b.length = 256) → bs.flatten.length = 256 * bs.length
  | [], _ => rfl
  | b :: bs, h => by
    rw [List.flatten_cons, List.length_append, h b (List.mem_cons_self ..), flat_len (fun x hx => h x (List.mem_cons_of_mem _ hx)), List.length_cons]
    omega
theorem flat_at : ∀ {bs : List (List Int)} {q i : Nat}, (∀ b ∈ bs, b.length = 256) → q < bs.length → i < 256 → bs.flatten.getD (256 * q + i) 0 = (bs.getD q []).getD i 0
  | [], _, _, _, h, _ => by simp at h
  | b :: bs, 0, i, h, _, hi => by
    have hb := h b (List.mem_cons_self ..)
    rw [List.flatten_cons]
    simp only [List.getD_eq_getElem?_getD]
    rw [List.getElem?_append_left (by omega)]
    simp
  | b :: bs, q + 1, i, h, hq, hi => by
    have hb := h b (List.mem_cons_self ..)
    have ih := flat_at (bs := bs) (q := q) (i := i) (fun x hx => h x (List.mem_cons_of_mem _ hx)) (by simpa using hq) hi
    rw [List.flatten_cons]
    simp only [List.getD_eq_getElem?_getD] at ih ⊢
    rw [List.getElem?_append_right (by omega), show 256 * (q + 1) + i - b.length = 256 * q + i by omega, ih]
    simp
theorem flat_drop : ∀ {bs : List (List Int)} {q : Nat}, (∀ b ∈ bs, b.length = 256) → q < bs.length → (bs.flatten.drop (256 * q)).take 256 = bs.getD q []
  | [], _, _, h => by simp at h
  | b :: bs, 0, h, _ => by
    have hb := h b (List.mem_cons_self ..)
    rw [List.flatten_cons, Nat.mul_zero, List.drop_zero, ← hb, List.take_left']
    · simp
    · rfl
  | b :: bs, q + 1, h, hq => by
    have hb := h b (List.mem_cons_self ..)
    have ih := flat_drop (bs := bs) (q := q) (fun x hx => h x (List.mem_cons_of_mem _ hx)) (by simpa using hq)
    rw [List.flatten_cons, show 256 * (q + 1) = b.length + 256 * q by omega, ← List.drop_drop, List.drop_left', ih]
    · simp
    · rfl

/-- what a two-stage table says of c: ix the blocks' numbers, bl the blocks -/
def getS (ix bl : List Int) (c : Int) : Int :=
  if 0 ≤ c ∧ c ≤ maxS ∧ c / 256 < ix.length ∧ 0 ≤ ix.getD (c / 256).toNat 0 ∧ ix.getD (c / 256).toNat 0 < (bl.length / 256 : Nat) then bl.getD (256 * (ix.getD (c / 256).toNat 0).toNat + (c % 256).toNat) 0 else 0
def nats (l : List Nat) : List Int := l.map fun n : Nat => (n : Int)
theorem nats_len (l : List Nat) : (nats l).length = l.length := by simp [nats]
theorem nats_at (l : List Nat) (i : Nat) : (nats l).getD i 0 = (l.getD i 0 : Nat) := by
  simp only [nats, List.getD_eq_getElem?_getD, List.getElem?_map]
  cases l[i]? <;> rfl
theorem getS_pack (g : Nat → Int) {p : List Nat × List (List Int)} (h : PackOk g 4352 p) {c : Nat} (hc : (c : Int) ≤ maxS) : getS (nats p.1) p.2.flatten c = g c := by
  unfold maxS at hc
  have e1 : ((c : Int) / 256).toNat = c / 256 := by omega
  have e2 : ((c : Int) % 256).toNat = c % 256 := by omega
  have ha := h.at_ (c / 256) (by omega)
  unfold getS
  rw [e1, e2, nats_at, nats_len, h.len, flat_len h.each, if_pos ⟨by omega, by unfold maxS; omega, by omega, by omega, by omega⟩]
  rw [Int.toNat_natCast, flat_at h.each ha.1 (by omega), ha.2, blk_at _ _ _ (by omega)]
  congr 1
  omega
end Go.Proofs.Ytcbijgmlmcpidaa
