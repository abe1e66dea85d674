/- What every walk of this seat uses: slices that read as lists of numbers, slices that the call owns, one law for append. No conditions. -/
import Derived.Test.YtelpbjiohkeobaaRows
import Derived.WalkKit
import Derived.Outline
import Derived.Deep.QuietTactic
import Derived.BigQuiet
import Derived.Deep.LoopGhost
namespace Go.Proofs.Ytelpbjiohkeobaa
open Go.RowKit

theorem hid {p : Prop} (h : p) : Hid p := h

/-- The value v is a slice that holds the numbers xs. -/
def Sl (k : IntKind) (w : World) (v : Value) (xs : List Int) : Prop :=
  ∃ a cap, v = .slice a xs.length cap ∧ xs.length ≤ cap ∧ cap ≤ maxLen ∧
    (cap = 0 ∨ ∃ b off, a = some ⟨b, off, none⟩ ∧ (0 < xs.length → b < w.heap.size) ∧ ∀ i, i < xs.length → w.cell? ⟨b, off + i, none⟩ = some (.int k (xs.getD i 0)))

/-- All of them are bytes. -/
def U8 (xs : List Int) : Prop := ∀ x ∈ xs, 0 ≤ x ∧ x ≤ 255

theorem U8.get {xs : List Int} (h : U8 xs) (i : Nat) : 0 ≤ xs.getD i 0 ∧ xs.getD i 0 ≤ 255 := by
  rw [List.getD_eq_getElem?_getD]
  rcases Nat.lt_or_ge i xs.length with hi | hi
  · rw [List.getElem?_eq_getElem hi]; exact h _ (List.getElem_mem hi)
  · rw [List.getElem?_eq_none hi]; exact ⟨Int.le_refl _, by decide⟩

theorem U8.get' {xs : List Int} (h : U8 xs) (i : Nat) : 0 ≤ xs[i]?.getD 0 ∧ xs[i]?.getD 0 ≤ 255 := by
  have := h.get i
  rwa [List.getD_eq_getElem?_getD] at this

theorem drop_getD {xs : List Int} {k : Nat} {x : Int} (hx : x = xs.getD k 0) (hk : k < xs.length) : xs.drop k = x :: xs.drop (k + 1) := by
  rw [List.drop_eq_getElem_cons hk, hx, List.getD_eq_getElem?_getD, List.getElem?_eq_getElem hk]
  rfl
theorem U8.nil : U8 [] := fun _ h => by cases h
theorem U8.cons {x : Int} {xs : List Int} (h : 0 ≤ x ∧ x ≤ 255) (t : U8 xs) : U8 (x :: xs) := fun y hy => by
  rcases List.mem_cons.1 hy with rfl | hy
  · exact h
  · exact t y hy
theorem U8.append {xs ys : List Int} (h : U8 xs) (k : U8 ys) : U8 (xs ++ ys) := fun y hy => (List.mem_append.1 hy).elim (h y) (k y)
theorem U8.take {xs : List Int} (h : U8 xs) (n : Nat) : U8 (xs.take n) := fun y hy => h y (List.mem_of_mem_take hy)
theorem U8.drop {xs : List Int} (h : U8 xs) (n : Nat) : U8 (xs.drop n) := fun y hy => h y (List.mem_of_mem_drop hy)
theorem U8.tail {x : Int} {xs : List Int} (h : U8 (x :: xs)) : U8 xs := fun y hy => h y (List.mem_cons_of_mem _ hy)
theorem U8.head {x : Int} {xs : List Int} (h : U8 (x :: xs)) : 0 ≤ x ∧ x ≤ 255 := h x (List.mem_cons_self ..)

theorem Sl.kept {k : IntKind} {B : Nat} {w w' : World} {v : Value} {xs : List Int} (h : Sl k w v xs) (hb : Below B w w') (hB : w.heap.size ≤ B) : Sl k w' v xs := by
  obtain ⟨a, cap, hv, hl, hm, h⟩ := h
  refine ⟨a, cap, hv, hl, hm, ?_⟩
  rcases h with h | ⟨b, off, ha, hbb, hc⟩
  · exact .inl h
  · exact .inr ⟨b, off, ha, fun h0 => Nat.lt_of_lt_of_le (hbb h0) hb.size, fun i hi => (hb.cell (p := ⟨b, off + i, none⟩) (by have := hbb (by omega); simp; omega)).trans (hc i hi)⟩

theorem Sl.below {k : IntKind} {w w' : World} {v : Value} {xs : List Int} (h : Sl k w v xs) (hb : Below w.heap.size w w') : Sl k w' v xs := h.kept hb (Nat.le_refl _)

theorem Sl.drewN {k : IntKind} {w : World} {v : Value} {xs : List Int} (h : Sl k w v xs) (n : Nat) : Sl k (w.drewN n) v xs := h

theorem Sl.len {k : IntKind} {w : World} {v : Value} {xs : List Int} (h : Sl k w v xs) : xs.length ≤ 9223372036854775807 := by
  obtain ⟨a, cap, _, hl, hm, _⟩ := h
  unfold maxLen at hm
  omega

/-- A slice of the call's own. -/
def Own (k : IntKind) (e base : Nat) (w : World) (v : Value) (xs : List Int) : Prop := w.ownsRow base e 1 v xs.length (xs.map (Value.int k))

theorem Own.nil (k : IntKind) (e base : Nat) (w : World) : Own k e base w (.slice none 0 0) [] := World.ownsRow_nil _ _ _ _

theorem Own.sl {k : IntKind} {e base : Nat} {w : World} {v : Value} {xs : List Int} (h : Own k e base w v xs) : Sl k w v xs := by
  obtain ⟨h1, h2⟩ := h
  rcases h2 with ⟨rfl, hn⟩ | ⟨g, cap, cur, rfl, hb, hg, hnc, hcm, hcs, ht⟩
  · exact ⟨none, 0, by rw [hn], by omega, by unfold maxLen; omega, .inl rfl⟩
  · refine ⟨some ⟨g, 0, none⟩, cap, rfl, hnc, hcm, .inr ⟨g, 0, rfl, fun _ => (Array.getElem?_eq_some_iff.1 hg).1, fun i hi => ?_⟩⟩
    rw [cell_of_row w g (0 + i) cur e (0, 0) hg]
    have : (cur.toList.take (xs.length * 1))[i]? = (xs.map (Value.int k))[i]? := by rw [ht]
    rw [List.getElem?_take, if_pos (by omega)] at this
    simp only [Nat.zero_add]
    rw [← Array.getElem?_toList, this, List.getElem?_map, List.getD_eq_getElem?_getD, List.getElem?_eq_getElem hi]
    rfl

theorem Own.mono {k : IntKind} {e base base' : Nat} {w : World} {v : Value} {xs : List Int} (h : Own k e base w v xs) (hb : base' ≤ base) : Own k e base' w v xs := by
  obtain ⟨h1, h2⟩ := h
  refine ⟨h1, ?_⟩
  rcases h2 with h2 | ⟨g, cap, cur, hv, hg, r⟩
  · exact .inl h2
  · exact .inr ⟨g, cap, cur, hv, by omega, r⟩

/-- What is owned stays owned while nothing that is there turns. -/
theorem Own.below {k : IntKind} {e base : Nat} {w w' : World} {v : Value} {xs : List Int} (h : Own k e base w v xs) (hb : Below w.heap.size w w') : Own k e base w' v xs := by
  obtain ⟨h1, h2⟩ := h
  refine ⟨h1, ?_⟩
  rcases h2 with h2 | ⟨g, cap, cur, hv, hg, hh, r⟩
  · exact .inl h2
  · exact .inr ⟨g, cap, cur, hv, hg, by rw [hb.block g (Array.getElem?_eq_some_iff.1 hh).1]; exact hh, r⟩

theorem Own.drewN {k : IntKind} {e base : Nat} {w : World} {v : Value} {xs : List Int} (h : Own k e base w v xs) (n : Nat) : Own k e base (w.drewN n) v xs := h

theorem drewN_ex (w : World) (a b : Nat) : ∃ m, (w.drewN a).drewN b = w.drewN m := ⟨a + b, World.drewN_drewN _ _ _⟩
theorem below_drewN {B : Nat} {w : World} (n : Nat) : Below B w (w.drewN n) := ⟨rfl, rfl, rfl, Nat.le_refl _, fun _ _ => rfl⟩
theorem below_drewN' {B : Nat} {a w : World} (h : Below B a w) (n : Nat) : Below B a (w.drewN n) := h.trans (below_drewN n)

theorem below_cells {W w1 : World} (hb : Below W.heap.size W w1) : (∀ b o, b < W.heap.size → w1.cell? ⟨b, o, none⟩ = W.cell? ⟨b, o, none⟩) ∧ (∀ b o, b < W.heap.size → w1.frozen? ⟨b, o, none⟩ = W.frozen? ⟨b, o, none⟩) :=
  ⟨fun b o h => hb.cell (p := ⟨b, o, none⟩) h, fun b o h => hb.frozen (p := ⟨b, o, none⟩) h⟩

/-! ### bits -/
theorem all_u8 {p : Int → Prop} (h : ∀ i : Fin 256, p ((i : Nat) : Int)) (x : Int) (h0 : 0 ≤ x) (h1 : x ≤ 255) : p x := by
  have t : p ((x.toNat : Nat) : Int) := h ⟨x.toNat, by omega⟩
  have e : ((x.toNat : Nat) : Int) = x := by omega
  rwa [e] at t
theorem and_127 : ∀ x : Int, 0 ≤ x → x ≤ 255 → bits .and .u8 x 127 = x % 128 := all_u8 (by decide +kernel)
theorem and_31 : ∀ x : Int, 0 ≤ x → x ≤ 255 → bits .and .u8 x 31 = x % 32 := all_u8 (by decide +kernel)
theorem and_32 : ∀ x : Int, 0 ≤ x → x ≤ 255 → (bits .and .u8 x 32 != 0) = decide (x / 32 % 2 = 1) := all_u8 (by decide +kernel)
theorem and_128 : ∀ x : Int, 0 ≤ x → x ≤ 255 → (bits .and .u8 x 128 != 0) = decide (128 ≤ x) := all_u8 (by decide +kernel)
theorem i64_nat (a : Nat) (ha : a < 9223372036854775808) : (BitVec.ofInt 64 (a : Int)).toNat = a := by
  rw [BitVec.ofInt_natCast, BitVec.toNat_ofNat]; exact Nat.mod_eq_of_lt (by omega)
theorem or_i64 (n : Nat) (t b : Int) (ht : 0 ≤ t) (hb : 0 ≤ b) (hn : b < 2 ^ n) (hs : t * 2 ^ n + b < 9223372036854775808) : bits .or .i64 (t * 2 ^ n) b = t * 2 ^ n + b := by
  obtain ⟨t, rfl⟩ := Int.eq_ofNat_of_zero_le ht
  obtain ⟨b, rfl⟩ := Int.eq_ofNat_of_zero_le hb
  have e : ((t : Int) * 2 ^ n) = ((2 ^ n * t : Nat) : Int) := by rw [Nat.mul_comm, Int.natCast_mul, Int.natCast_pow]; rfl
  rw [e] at hs ⊢
  have hn' : b < 2 ^ n := by exact_mod_cast hn
  have hs' : 2 ^ n * t + b < 9223372036854775808 := by omega
  have ho : 2 ^ n * t ||| b = 2 ^ n * t + b := (Nat.two_pow_add_eq_or_of_lt hn' t).symm
  show IntKind.i64.wrap ((BitVec.ofInt 64 ((2 ^ n * t : Nat) : Int) ||| BitVec.ofInt 64 (b : Int)).toNat : Int) = _
  rw [BitVec.toNat_or, i64_nat _ (by omega), i64_nat _ (by omega), ho, IntKind.wrap_i64]
  omega
theorem or_i64_7 (t b : Int) (ht : 0 ≤ t) (hb : 0 ≤ b) (hn : b < 128) (hs : t ≤ 1000000000000000) : bits .or .i64 (t * 128) b = t * 128 + b := or_i64 7 t b ht hb hn (by omega)
theorem or_i64_8 (t b : Int) (ht : 0 ≤ t) (hb : 0 ≤ b) (hn : b < 256) (hs : t ≤ 1000000000000000) : bits .or .i64 (t * 256) b = t * 256 + b := or_i64 8 t b ht hb hn (by omega)

/-- append(dst, src...): dst is the call's own, src any slice. -/
theorem wpList_app {P : Program} (w : World) {ops : Array Oper} {rest : List Oper} {o : Oper} {a : Act} {Q : Exit → Act → World → Prop} (hgd : o.guard = none) (s x : Operand) (t : TypeId)
    (ho : o.op = .call { callee := .builtin .append, args := #[s, x], argTypes := #[t, t] }) (k : IntKind)
    (base e : Nat) (bytes : Nat) (ht : P.underlying t = some (.slice e)) (hinfo : (P.info? e).map (fun i => (i.zero, i.size, i.bytes)) = some (some (.int k 0), 1, bytes))
    (v : Value) (xs ys : List Int) (hs : a.eval s = v) (hown : Own k e base w v xs) (u : Value) (hx : a.eval x = u) (hu : Sl k w u ys)
    (h63 : xs.length + ys.length ≤ maxLen) (hbytes : (xs.length + ys.length) * bytes ≤ 140737488355328) (hbase : base ≤ w.heap.size)
    (h : ∀ v' w', Own k e base w' v' (xs ++ ys) → w.grownBy w' v.ownBlock → Below base w w' → (v' = .slice none 0 0 ↔ v = .slice none 0 0 ∧ ys = []) → wpList P ops Q rest (a.put o.dst v') w') : wpList P ops Q (o :: rest) a w := by
  obtain ⟨i, hi, hz0, hz1, hz2⟩ := info_parts hinfo
  have hbel : ∀ w', w.grownBy w' v.ownBlock → Below base w w' := fun w' hg => (Below.refl base w).grown hg hbase (fun k hk => (World.ownsRow.lt hown k hk).1)
  obtain ⟨ao, cap, rfl, hl, hm, hu⟩ := hu
  rcases hu with rfl | ⟨b, off, rfl, hbb, hc⟩
  · have hy : ys = [] := List.eq_nil_of_length_eq_zero (by omega)
    subst hy
    simp only [List.length_nil] at hx
    match ao, hx with
    | none, hx =>
      refine wpList_plain hgd fun K hK => ?_
      have hrun := run_append_owned_none (P := P) w base t o.type e i 1 ht hi v xs.length (xs.map (Value.int k)) hown
      unfold Oper.wp
      simp [execOp, ho, resolve, invoke, builtin, hs, hx, hrun, Result.andThen]
      exact hK _ _ (h v w (by rw [List.append_nil]; exact hown) (World.grownBy.refl _ _) (Below.refl _ _) (by simp))
    | some ad, hx =>
      refine wpList_append_own w hgd s x t ho base e i (.int k 0) 1 bytes ht hi hz0 hz1 hz2 rfl (by decide) v xs.length (xs.map (Value.int k)) hs hown ad 0 0 [] hx (by simp) (fun j u hj => by simp at hj) (fun u hu => by cases hu) h63 hbytes hbase ?_
      intro v' w' hown' hg hnil
      refine h v' w' (by simpa [Own] using hown') hg (hbel w' hg) (hnil.trans ?_)
      simp
  · refine wpList_append_own w hgd s x t ho base e i (.int k 0) 1 bytes ht hi hz0 hz1 hz2 rfl (by decide) v xs.length (xs.map (Value.int k)) hs hown ⟨b, off, none⟩ ys.length cap (ys.map (Value.int k)) hx (by simp) ?_ (ints_oneCell k ys) h63 hbytes hbase ?_
    · intro j u hj
      rw [List.getElem?_map] at hj
      have hadd : (⟨b, off, none⟩ : Addr).add j = ⟨b, off + j, none⟩ := by unfold Addr.add; split <;> simp_all
      rcases Nat.lt_or_ge j ys.length with hjl | hjl
      · rw [hadd, hc j hjl, ← hj, List.getD_eq_getElem?_getD, List.getElem?_eq_getElem hjl]; rfl
      · rw [List.getElem?_eq_none hjl] at hj; cases hj
    · intro v' w' hown' hg hnil
      refine h v' w' (by simpa [Own] using hown') hg (hbel w' hg) (hnil.trans ?_)
      constructor
      · rintro ⟨a, b⟩; exact ⟨a, List.eq_nil_of_length_eq_zero b⟩
      · rintro ⟨a, rfl⟩; exact ⟨a, rfl⟩

/-- v[l:h] of a slice that holds xs. -/
theorem run_cut {P : Program} (w : World) (t e : TypeId) (ht : P.underlying t = some (.slice e)) {z : Value} {bytes : Nat} (hinfo : (P.info? e).map (fun i => (i.zero, i.size, i.bytes)) = some (some z, 1, bytes)) (k : IntKind)
    (v : Value) (xs : List Int) (hs : Sl k w v xs) (lo hi : Option Value) (l h : Nat) (hlo : (lo = none ∧ l = 0) ∨ ∃ kk, lo = some (.int kk (l : Int))) (hhi : (hi = none ∧ h = xs.length) ∨ ∃ kk, hi = some (.int kk (h : Int)))
    (hlh : l ≤ h) (hh : h ≤ xs.length) :
    ∃ v', (Instr.sliceAt t v lo hi none).run P w = .ok v' w ∧ Sl k w v' ((xs.drop l).take (h - l)) := by
  obtain ⟨i, hi', hz0, hz1, hz2⟩ := info_parts hinfo
  obtain ⟨a, cap, rfl, hl, hm, hc⟩ := hs
  have hrun : (Instr.sliceAt t (.slice a xs.length cap) lo hi none).run P w = .ok (.slice (if cap = l then a else a.map (·.add (l * 1))) (h - l) (cap - l)) w := by
    have e1 : (0 : Int) ≤ (l : Int) ∧ (l : Int) ≤ (h : Int) := by omega
    have e2 : (0 : Int) ≤ (h : Int) ∧ (h : Int) ≤ (cap : Int) := by omega
    rcases hlo with ⟨rfl, rfl⟩ | ⟨kl, rfl⟩ <;> rcases hhi with ⟨rfl, rfl⟩ | ⟨kh, rfl⟩ <;>
      simp [Instr.sliceAt, Instr.slice, run_underlying ht, Instr.sliceBounds, Instr.sliceBound, asIntOf, sizeOf, typeInfo, hi', hz1, e1, e2]
    · intro hx; omega
    · intro hx; omega
    · rw [if_pos (by omega), if_pos (by omega)]
  refine ⟨_, hrun, ?_⟩
  have hlen : ((xs.drop l).take (h - l)).length = h - l := by simp; omega
  rcases hc with rfl | ⟨b, off, rfl, hbb, hc⟩
  · have h0 : h = 0 := by omega
    have l0 : l = 0 := by omega
    subst h0 l0
    exact ⟨_, 0, by simp; rfl, by simp, hm, .inl rfl⟩
  · refine ⟨_, cap - l, by rw [hlen], by rw [hlen]; omega, by omega, .inr ⟨b, (if cap = l then off else off + l), ?_, fun h0 => hbb (by omega), fun j hj => ?_⟩⟩
    · split
      · rfl
      · simp [Addr.add]
    · rw [hlen] at hj
      rw [if_neg (by omega), Nat.add_assoc, hc (l + j) (by omega)]
      congr 2
      simp only [List.getD_eq_getElem?_getD, List.getElem?_take, if_pos hj, List.getElem?_drop]

/-- v[i:] -/
theorem wpList_from {P : Program} (w : World) {ops : Array Oper} {rest : List Oper} {o : Oper} {a : Act} {Q : Exit → Act → World → Prop} (hgd : o.guard = none) (x lo : Operand) (t : TypeId)
    (ho : o.op = .slice t x (some lo) none none) (k : IntKind) (e : TypeId) (bytes : Nat) (ht : P.underlying t = some (.slice e)) (hinfo : (P.info? e).map (fun i => (i.zero, i.size, i.bytes)) = some (some (.int k 0), 1, bytes))
    (v : Value) (xs : List Int) (hx : a.eval x = v) (hs : Sl k w v xs) (kk : IntKind) (i : Int) (hlo : a.eval lo = .int kk i) (h0 : 0 ≤ i) (h1 : i ≤ xs.length)
    (h : ∀ v', Sl k w v' (xs.drop i.toNat) → wpList P ops Q rest (a.put o.dst v') w) : wpList P ops Q (o :: rest) a w := by
  obtain ⟨n, rfl⟩ := Int.eq_ofNat_of_zero_le h0
  obtain ⟨v', hrun, hv'⟩ := run_cut (P := P) w t e ht hinfo k v xs hs (some (.int kk (n : Int))) none n xs.length (.inr ⟨kk, rfl⟩) (.inl ⟨rfl, rfl⟩) (by omega) (Nat.le_refl _)
  refine wpList_plain hgd fun K hK => ?_
  unfold Oper.wp
  simp [execOp, ho, hx, hlo, hrun, Result.andThen]
  refine hK _ _ (h v' ?_)
  rw [List.take_of_length_le (by simp)] at hv'
  exact hv'

/-- v[i:j] -/
theorem wpList_span {P : Program} (w : World) {ops : Array Oper} {rest : List Oper} {o : Oper} {a : Act} {Q : Exit → Act → World → Prop} (hgd : o.guard = none) (x lo hi : Operand) (t : TypeId)
    (ho : o.op = .slice t x (some lo) (some hi) none) (k : IntKind) (e : TypeId) (bytes : Nat) (ht : P.underlying t = some (.slice e)) (hinfo : (P.info? e).map (fun i => (i.zero, i.size, i.bytes)) = some (some (.int k 0), 1, bytes))
    (v : Value) (xs : List Int) (hx : a.eval x = v) (hs : Sl k w v xs) (kk kj : IntKind) (i j : Int) (hlo : a.eval lo = .int kk i) (hhi : a.eval hi = .int kj j) (h0 : 0 ≤ i) (hij : i ≤ j) (h1 : j ≤ xs.length)
    (h : ∀ v', Sl k w v' ((xs.drop i.toNat).take (j.toNat - i.toNat)) → wpList P ops Q rest (a.put o.dst v') w) : wpList P ops Q (o :: rest) a w := by
  obtain ⟨n, rfl⟩ := Int.eq_ofNat_of_zero_le h0
  obtain ⟨m, rfl⟩ := Int.eq_ofNat_of_zero_le (Int.le_trans h0 hij)
  obtain ⟨v', hrun, hv'⟩ := run_cut (P := P) w t e ht hinfo k v xs hs (some (.int kk (n : Int))) (some (.int kj (m : Int))) n m (.inr ⟨kk, rfl⟩) (.inr ⟨kj, rfl⟩) (by omega) (by omega)
  refine wpList_plain hgd fun K hK => ?_
  unfold Oper.wp
  simp [execOp, ho, hx, hlo, hhi, hrun, Result.andThen]
  exact hK _ _ (h v' hv')

/-- v[:j] -/
theorem wpList_to {P : Program} (w : World) {ops : Array Oper} {rest : List Oper} {o : Oper} {a : Act} {Q : Exit → Act → World → Prop} (hgd : o.guard = none) (x hi : Operand) (t : TypeId)
    (ho : o.op = .slice t x none (some hi) none) (k : IntKind) (e : TypeId) (bytes : Nat) (ht : P.underlying t = some (.slice e)) (hinfo : (P.info? e).map (fun i => (i.zero, i.size, i.bytes)) = some (some (.int k 0), 1, bytes))
    (v : Value) (xs : List Int) (hx : a.eval x = v) (hs : Sl k w v xs) (kj : IntKind) (j : Int) (hhi : a.eval hi = .int kj j) (h0 : 0 ≤ j) (h1 : j ≤ xs.length)
    (h : ∀ v', Sl k w v' (xs.take j.toNat) → wpList P ops Q rest (a.put o.dst v') w) : wpList P ops Q (o :: rest) a w := by
  obtain ⟨m, rfl⟩ := Int.eq_ofNat_of_zero_le h0
  obtain ⟨v', hrun, hv'⟩ := run_cut (P := P) w t e ht hinfo k v xs hs none (some (.int kj (m : Int))) 0 m (.inl ⟨rfl, rfl⟩) (.inr ⟨kj, rfl⟩) (by omega) (by omega)
  refine wpList_plain hgd fun K hK => ?_
  unfold Oper.wp
  simp [execOp, ho, hx, hhi, hrun, Result.andThen]
  exact hK _ _ (h v' (by simpa using hv'))

/-! ### guards: each fits one kind of operation alone -/
section
variable {P : Program} {ops : Array Oper} {Q : Exit → Act → World → Prop} {rest : List Oper} {a : Act} {w : World} {dst : Option Tmp} {t ty : TypeId} {pos : String} {after : Array Edge} {x y z : Operand}
theorem at_from (h : wpList P ops Q (Oper.mk dst (Op.slice t x (some y) none none) ty pos after none :: rest) a w) : wpList P ops Q (Oper.mk dst (Op.slice t x (some y) none none) ty pos after none :: rest) a w := h
theorem at_to (h : wpList P ops Q (Oper.mk dst (Op.slice t x none (some y) none) ty pos after none :: rest) a w) : wpList P ops Q (Oper.mk dst (Op.slice t x none (some y) none) ty pos after none :: rest) a w := h
theorem at_span (h : wpList P ops Q (Oper.mk dst (Op.slice t x (some y) (some z) none) ty pos after none :: rest) a w) : wpList P ops Q (Oper.mk dst (Op.slice t x (some y) (some z) none) ty pos after none :: rest) a w := h
end

/-- A block of cells that the call laid. -/
def Box (t : TypeId) (cs : List Value) (B : Nat) (w : World) : Prop := w.heap[B]? = some (.cells cs.toArray t)

theorem Box.made (w : World) (t : TypeId) (cs : List Value) : Box t cs w.heap.size (w.alloc (.cells cs.toArray t)) := heap_alloc_new w _
theorem Box.lt {t : TypeId} {cs : List Value} {B : Nat} {w : World} (h : Box t cs B w) : B < w.heap.size := (Array.getElem?_eq_some_iff.1 h).1
theorem Box.cell {t : TypeId} {cs : List Value} {B : Nat} {w : World} (h : Box t cs B w) (j : Nat) : w.cell? ⟨B, j, none⟩ = cs[j]? := by
  rw [cell_of_row w B j cs.toArray t (0, 0) h]; simp
theorem Box.below {t : TypeId} {cs : List Value} {B base : Nat} {w w' : World} (h : Box t cs B w) (hb : Below base w w') (hB : B < base) : Box t cs B w' := (hb.block B hB).trans h
theorem Box.drewN {t : TypeId} {cs : List Value} {B : Nat} {w : World} (h : Box t cs B w) (n : Nat) : Box t cs B (w.drewN n) := h
theorem Own.other {k : IntKind} {e base : Nat} {w : World} {v : Value} {xs : List Int} (h : Own k e base w v xs) {t : TypeId} {cs : List Value} {B : Nat} (hb : Box t cs B w) (ht : t ≠ e) : some B ≠ v.ownBlock := by
  intro hB
  rcases h.2 with ⟨rfl, _⟩ | ⟨g, cap, cur, rfl, _, hg, _⟩
  · simp [Value.ownBlock] at hB
  · simp [Value.ownBlock] at hB
    subst hB
    have hb' : w.heap[B]? = some (.cells cs.toArray t) := hb
    rw [hg] at hb'
    simp at hb'
    exact ht hb'.2.symm
theorem Box.grown {k : IntKind} {e base : Nat} {w w' : World} {v : Value} {xs : List Int} {t : TypeId} {cs : List Value} {B : Nat} (hb : Box t cs B w) (h : Own k e base w v xs) (hg : w.grownBy w' v.ownBlock) (ht : t ≠ e) : Box t cs B w' :=
  (hg.block B hb.lt (h.other hb ht)).trans hb

/-- the one byte that a literal of one element lays -/
theorem one_sl {k : IntKind} {w : World} {x : Int} {e : TypeId} {n : Nat} (hn : n = w.heap.size) : Sl k (w.alloc (.cells #[.int k x] e)) (.slice (some ⟨n, 0, none⟩) 1 1) [x] := by
  subst hn
  refine ⟨_, 1, rfl, by simp, by unfold maxLen; omega, .inr ⟨w.heap.size, 0, rfl, fun _ => by simp, fun i hi => ?_⟩⟩
  simp only [List.length_cons, List.length_nil] at hi
  obtain rfl : i = 0 := by omega
  rw [cell_of_row _ w.heap.size (0 + 0) #[.int k x] e (0, 0) (heap_alloc_new w _)]
  rfl
theorem Own.alloc {k : IntKind} {e base : Nat} {w : World} {v : Value} {xs : List Int} (h : Own k e base w v xs) (o : Obj) : Own k e base (w.alloc o) v xs := World.ownsRow.alloc h o
theorem Own.drew {k : IntKind} {e base : Nat} {w : World} {v : Value} {xs : List Int} (h : Own k e base w v xs) : Own k e base w.drew v xs := h
theorem Box.alloc {t : TypeId} {cs : List Value} {B : Nat} {w : World} (h : Box t cs B w) (o : Obj) : Box t cs B (w.alloc o) := (Below.heap_alloc w o B h.lt).trans h

theorem Box.five {t : TypeId} {a b c d e : Value} {B : Nat} {w : World} (h : Box t [a, b, c, d, e] B w) :
    w.cell? ⟨B, 0, none⟩ = some a ∧ w.cell? ⟨B, 1, none⟩ = some b ∧ w.cell? ⟨B, 2, none⟩ = some c ∧ w.cell? ⟨B, 3, none⟩ = some d ∧ w.cell? ⟨B, 4, none⟩ = some e :=
  ⟨h.cell 0, h.cell 1, h.cell 2, h.cell 3, h.cell 4⟩
theorem Box.ice {t : TypeId} {cs : List Value} {B : Nat} {w : World} (h : Box t cs B w) (j : Nat) : w.frozen? ⟨B, j, none⟩ = false := frozen_of_row w B j _ t h
theorem Box.ice5 {t : TypeId} {cs : List Value} {B : Nat} {w : World} (h : Box t cs B w) :
    w.frozen? ⟨B, 0, none⟩ = false ∧ w.frozen? ⟨B, 1, none⟩ = false ∧ w.frozen? ⟨B, 2, none⟩ = false ∧ w.frozen? ⟨B, 3, none⟩ = false ∧ w.frozen? ⟨B, 4, none⟩ = false :=
  ⟨h.ice 0, h.ice 1, h.ice 2, h.ice 3, h.ice 4⟩

theorem Box.set {t : TypeId} {cs : List Value} {B : Nat} {w : World} (h : Box t cs B w) (j : Nat) (v : Value) : Box t (cs.set j v) B (w.setCell ⟨B, j, none⟩ v) := by
  have h' : w.heap[B]? = some (.cells cs.toArray t) := h
  show (w.setCell ⟨B, j, none⟩ v).heap[B]? = _
  simp [World.setCell, Array.getElem?_modify, h']
theorem Box.store5 {t : TypeId} {a b c d e : Value} {B : Nat} {w : World} (h : Box t [a, b, c, d, e] B w) (a' b' c' d' e' : Value) :
    Box t [a', b', c', d', e'] B (((((w.setCell ⟨B, 0, none⟩ a').setCell ⟨B, 1, none⟩ b').setCell ⟨B, 2, none⟩ c').setCell ⟨B, 3, none⟩ d').setCell ⟨B, 4, none⟩ e') :=
  ((((h.set 0 a').set 1 b').set 2 c').set 3 d').set 4 e'
theorem below_store5 {base B : Nat} {a b c d e : Value} {w0 w : World} (h : Below base w0 w) (hB : base ≤ B) :
    Below base w0 (((((w.setCell ⟨B, 0, none⟩ a).setCell ⟨B, 1, none⟩ b).setCell ⟨B, 2, none⟩ c).setCell ⟨B, 3, none⟩ d).setCell ⟨B, 4, none⟩ e) :=
  ((((h.setCell hB _).setCell hB _).setCell hB _).setCell hB _).setCell hB _
theorem Own.set {k : IntKind} {e base : Nat} {w : World} {v : Value} {xs : List Int} (h : Own k e base w v xs) {t : TypeId} {cs : List Value} {B : Nat} (hb : Box t cs B w) (ht : t ≠ e) (j : Nat) (u : Value) : Own k e base (w.setCell ⟨B, j, none⟩ u) v xs := by
  have ho := h.other hb ht
  obtain ⟨h1, h2⟩ := h
  refine ⟨h1, ?_⟩
  rcases h2 with h2 | ⟨g, cap, cur, rfl, hg, hh, r⟩
  · exact .inl h2
  · refine .inr ⟨g, cap, cur, rfl, hg, ?_, r⟩
    rw [Below.heap_setCell _ _ _ _ (by simpa [Value.ownBlock] using fun e => ho (by simp [Value.ownBlock, e]))]
    exact hh
theorem Own.store5 {k : IntKind} {e base : Nat} {w : World} {v : Value} {xs : List Int} (h : Own k e base w v xs) {t : TypeId} {a b c d f : Value} {B : Nat} (hb : Box t [a, b, c, d, f] B w) (ht : t ≠ e) (a' b' c' d' f' : Value) :
    Own k e base (((((w.setCell ⟨B, 0, none⟩ a').setCell ⟨B, 1, none⟩ b').setCell ⟨B, 2, none⟩ c').setCell ⟨B, 3, none⟩ d').setCell ⟨B, 4, none⟩ f') v xs :=
  ((((h.set hb ht 0 a').set (hb.set 0 a') ht 1 b').set ((hb.set 0 a').set 1 b') ht 2 c').set (((hb.set 0 a').set 1 b').set 2 c') ht 3 d').set ((((hb.set 0 a').set 1 b').set 2 c').set 3 d') ht 4 f'

/-- v[l:h] as a run equation of every world, for statements whose order is open. -/
theorem cut_all {P : Program} (w0 : World) (t e : TypeId) (ht : P.underlying t = some (.slice e)) {z : Value} {bytes : Nat} (hinfo : (P.info? e).map (fun i => (i.zero, i.size, i.bytes)) = some (some z, 1, bytes)) (k : IntKind)
    (v : Value) (xs : List Int) (hs : Sl k w0 v xs) (lo hi : Option Value) (l h : Nat) (hlo : (lo = none ∧ l = 0) ∨ ∃ kk, lo = some (.int kk (l : Int))) (hhi : (hi = none ∧ h = xs.length) ∨ ∃ kk, hi = some (.int kk (h : Int)))
    (hlh : l ≤ h) (hh : h ≤ xs.length) :
    ∃ v', (∀ w, (Instr.sliceAt t v lo hi none).run P w = .ok v' w) ∧ (∀ w, (Instr.slice t v lo hi none).run P w = .ok v' w) ∧ ∀ w, Sl k w v xs → Sl k w v' ((xs.drop l).take (h - l)) := by
  obtain ⟨v', hrun, _⟩ := run_cut w0 t e ht hinfo k v xs hs lo hi l h hlo hhi hlh hh
  have hv : ∀ w, ∃ v'', (Instr.sliceAt t v lo hi none).run P w = .ok v'' w ∧ v'' = v' ∧ (Instr.slice t v lo hi none).run P w = .ok v'' w := by
    intro w
    obtain ⟨a, cap, rfl, hl, hm, _⟩ := hs
    obtain ⟨i, hi', hz0, hz1, hz2⟩ := info_parts hinfo
    have gen : ∀ w, (Instr.sliceAt t (.slice a xs.length cap) lo hi none).run P w = .ok (.slice (if cap = l then a else a.map (·.add (l * 1))) (h - l) (cap - l)) w ∧ (Instr.slice t (.slice a xs.length cap) lo hi none).run P w = .ok (.slice (if cap = l then a else a.map (·.add (l * 1))) (h - l) (cap - l)) w := by
      intro w
      have e1 : (0 : Int) ≤ (l : Int) ∧ (l : Int) ≤ (h : Int) := by omega
      have e2 : (0 : Int) ≤ (h : Int) ∧ (h : Int) ≤ (cap : Int) := by omega
      rcases hlo with ⟨rfl, rfl⟩ | ⟨kl, rfl⟩ <;> rcases hhi with ⟨rfl, rfl⟩ | ⟨kh, rfl⟩ <;>
        simp [Instr.sliceAt, Instr.slice, run_underlying ht, Instr.sliceBounds, Instr.sliceBound, asIntOf, sizeOf, typeInfo, hi', hz1, e1, e2]
      · intro hx; omega
      · intro hx; omega
      · rw [if_pos (by omega), if_pos (by omega)]
    have g0 := (gen w0).1
    rw [hrun] at g0
    injection g0 with g0
    exact ⟨_, (gen w).1, g0.symm, (gen w).2⟩
  refine ⟨v', fun w => ?_, fun w => ?_, fun w hw => ?_⟩
  · obtain ⟨_, h1, rfl, _⟩ := hv w; exact h1
  · obtain ⟨_, _, rfl, h1⟩ := hv w; exact h1
  · obtain ⟨v2, h2, hs2⟩ := run_cut w t e ht hinfo k v xs hw lo hi l h hlo hhi hlh hh
    obtain ⟨_, h1, rfl, _⟩ := hv w
    rw [h1] at h2
    injection h2 with h2
    rw [h2]; exact hs2

/-- a literal's row -/
theorem lit_sl {k : IntKind} {w : World} {xs : List Int} {e : TypeId} {n len : Nat} {cs : Array Value} (hn : n = w.heap.size) (hc : cs = (xs.map (Value.int k)).toArray) (hl : len = xs.length) (hm : xs.length ≤ 1000000) :
    Sl k (w.alloc (.cells cs e)) (.slice (some ⟨n, 0, none⟩) len len) xs := by
  subst hn hc hl
  refine ⟨_, xs.length, rfl, Nat.le_refl _, by unfold maxLen; omega, .inr ⟨w.heap.size, 0, rfl, fun _ => by simp, fun i hi => ?_⟩⟩
  rw [cell_of_row _ w.heap.size (0 + i) _ e (0, 0) (heap_alloc_new w _)]
  simp only [Nat.zero_add, List.getElem?_toArray, List.getElem?_map, List.getD_eq_getElem?_getD, List.getElem?_eq_getElem hi, Option.map_some, Option.getD_some]

/-- What is owned from base on stays while a block below base is written. -/
theorem Own.apart {k : IntKind} {e base : Nat} {w w' : World} {v : Value} {xs : List Int} {row : Option Nat} (h : Own k e base w v xs) (hr : ∀ r, row = some r → r < base) (hg : w.grownBy w' row) : Own k e base w' v xs := by
  refine World.ownsRow.kept h hg ?_
  cases hv : v.ownBlock with
  | none => exact .inl rfl
  | some g =>
    refine .inr fun hrow => ?_
    have h1 := (World.ownsRow.lt h g hv).1
    have h2 := hr g hrow.symm
    omega
theorem Own.lt' {k : IntKind} {e base : Nat} {w : World} {v : Value} {xs : List Int} (h : Own k e base w v xs) : ∀ r, v.ownBlock = some r → r < w.heap.size := fun r hr => (World.ownsRow.lt h r hr).2

/-- a literal's row is the call's own -/
theorem lit_own {k : IntKind} {w : World} {xs : List Int} {e base n len : Nat} {cs : Array Value} (hn : n = w.heap.size) (hb : base ≤ w.heap.size) (hc : cs = (xs.map (Value.int k)).toArray) (hl : len = xs.length) (hm : xs.length ≤ 1000000) :
    Own k e base (w.alloc (.cells cs e)) (.slice (some ⟨n, 0, none⟩) len len) xs := by
  subst hn hc hl
  have := World.ownsRow_lit (base := base) (e := e) (size := 1) w (xs.map (Value.int k)).toArray xs.length hb (by unfold maxLen; omega) (by simp)
  simpa [Own] using this

end Go.Proofs.Ytelpbjiohkeobaa
