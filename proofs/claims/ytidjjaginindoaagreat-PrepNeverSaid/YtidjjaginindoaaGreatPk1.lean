/- Several texts in one: Base, HangSpec, RngSpec, Sg, Tabs6, KeepG, ApiRg, RefRng1, Num, Keep. -/
import Derived.Test.YtidjjaginindoaaGreatRows
import Derived.WalkKit
import Derived.Outline
import Derived.Deep.QuietTactic
import Derived.BigQuiet
import Derived.Deep.LoopGhost
import Derived.Great.Walk
/-! Base -/
namespace Go.Proofs.YtidjjaginindoaaGreat
open Go.RowKit

theorem hid {p : Prop} (h : p) : Hid p := h

/-- The value v is a slice that holds the numbers xs. -/
def Sl (k : IntKind) (w : World) (v : Value) (xs : List Int) : Prop :=
  ∃ a cap, v = .slice a xs.length cap ∧ xs.length ≤ cap ∧ cap ≤ maxLen ∧
    (cap = 0 ∨ ∃ b off, a = some ⟨b, off, none⟩ ∧ (0 < xs.length → b < w.heap.size) ∧ ∀ i, i < xs.length → w.cell? ⟨b, off + i, none⟩ = some (.int k (xs.getD i 0)))

/-- All of them are bytes. -/
def U8 (xs : List Int) : Prop := ∀ x ∈ xs, 0 ≤ x ∧ x ≤ 255

theorem U8.get {xs : List Int} (h : U8 xs) (i : Nat) : 0 ≤ xs.getD i 0 ∧ xs.getD i 0 ≤ 255 := by
  rw [List.getD_eq_getElem?_getD]
  rcases Nat.lt_or_ge i xs.length with hi | hi
  · rw [List.getElem?_eq_getElem hi]; exact h _ (List.getElem_mem hi)
  · rw [List.getElem?_eq_none hi]; exact ⟨Int.le_refl _, by decide⟩

theorem U8.get' {xs : List Int} (h : U8 xs) (i : Nat) : 0 ≤ xs[i]?.getD 0 ∧ xs[i]?.getD 0 ≤ 255 := by
  have := h.get i
  rwa [List.getD_eq_getElem?_getD] at this

theorem drop_getD {xs : List Int} {k : Nat} {x : Int} (hx : x = xs.getD k 0) (hk : k < xs.length) : xs.drop k = x :: xs.drop (k + 1) := by
  rw [List.drop_eq_getElem_cons hk, hx, List.getD_eq_getElem?_getD, List.getElem?_eq_getElem hk]
  rfl
theorem U8.nil : U8 [] := fun _ h => by cases h
theorem U8.cons {x : Int} {xs : List Int} (h : 0 ≤ x ∧ x ≤ 255) (t : U8 xs) : U8 (x :: xs) := fun y hy => by
  rcases List.mem_cons.1 hy with rfl | hy
  · exact h
  · exact t y hy
theorem U8.append {xs ys : List Int} (h : U8 xs) (k : U8 ys) : U8 (xs ++ ys) := fun y hy => (List.mem_append.1 hy).elim (h y) (k y)
theorem U8.take {xs : List Int} (h : U8 xs) (n : Nat) : U8 (xs.take n) := fun y hy => h y (List.mem_of_mem_take hy)
theorem U8.drop {xs : List Int} (h : U8 xs) (n : Nat) : U8 (xs.drop n) := fun y hy => h y (List.mem_of_mem_drop hy)
theorem U8.tail {x : Int} {xs : List Int} (h : U8 (x :: xs)) : U8 xs := fun y hy => h y (List.mem_cons_of_mem _ hy)
theorem U8.head {x : Int} {xs : List Int} (h : U8 (x :: xs)) : 0 ≤ x ∧ x ≤ 255 := h x (List.mem_cons_self ..)

theorem Sl.kept {k : IntKind} {B : Nat} {w w' : World} {v : Value} {xs : List Int} (h : Sl k w v xs) (hb : Below B w w') (hB : w.heap.size ≤ B) : Sl k w' v xs := by
  obtain ⟨a, cap, hv, hl, hm, h⟩ := h
  refine ⟨a, cap, hv, hl, hm, ?_⟩
  rcases h with h | ⟨b, off, ha, hbb, hc⟩
  · exact .inl h
  · exact .inr ⟨b, off, ha, fun h0 => Nat.lt_of_lt_of_le (hbb h0) hb.size, fun i hi => (hb.cell (p := ⟨b, off + i, none⟩) (by have := hbb (by omega); simp; omega)).trans (hc i hi)⟩

theorem Sl.below {k : IntKind} {w w' : World} {v : Value} {xs : List Int} (h : Sl k w v xs) (hb : Below w.heap.size w w') : Sl k w' v xs := h.kept hb (Nat.le_refl _)

theorem Sl.drewN {k : IntKind} {w : World} {v : Value} {xs : List Int} (h : Sl k w v xs) (n : Nat) : Sl k (w.drewN n) v xs := h

theorem Sl.len {k : IntKind} {w : World} {v : Value} {xs : List Int} (h : Sl k w v xs) : xs.length ≤ 9223372036854775807 := by
  obtain ⟨a, cap, _, hl, hm, _⟩ := h
  unfold maxLen at hm
  omega

/-- A slice of the call's own. -/
def Own (k : IntKind) (e base : Nat) (w : World) (v : Value) (xs : List Int) : Prop := w.ownsRow base e 1 v xs.length (xs.map (Value.int k))

theorem Own.nil (k : IntKind) (e base : Nat) (w : World) : Own k e base w (.slice none 0 0) [] := World.ownsRow_nil _ _ _ _

theorem Own.sl {k : IntKind} {e base : Nat} {w : World} {v : Value} {xs : List Int} (h : Own k e base w v xs) : Sl k w v xs := by
  obtain ⟨h1, h2⟩ := h
  rcases h2 with ⟨rfl, hn⟩ | ⟨g, cap, cur, rfl, hb, hg, hnc, hcm, hcs, ht⟩
  · exact ⟨none, 0, by rw [hn], by omega, by unfold maxLen; omega, .inl rfl⟩
  · refine ⟨some ⟨g, 0, none⟩, cap, rfl, hnc, hcm, .inr ⟨g, 0, rfl, fun _ => (Array.getElem?_eq_some_iff.1 hg).1, fun i hi => ?_⟩⟩
    rw [cell_of_row w g (0 + i) cur e (0, 0) hg]
    have : (cur.toList.take (xs.length * 1))[i]? = (xs.map (Value.int k))[i]? := by rw [ht]
    rw [List.getElem?_take, if_pos (by omega)] at this
    simp only [Nat.zero_add]
    rw [← Array.getElem?_toList, this, List.getElem?_map, List.getD_eq_getElem?_getD, List.getElem?_eq_getElem hi]
    rfl

theorem Own.mono {k : IntKind} {e base base' : Nat} {w : World} {v : Value} {xs : List Int} (h : Own k e base w v xs) (hb : base' ≤ base) : Own k e base' w v xs := by
  obtain ⟨h1, h2⟩ := h
  refine ⟨h1, ?_⟩
  rcases h2 with h2 | ⟨g, cap, cur, hv, hg, r⟩
  · exact .inl h2
  · exact .inr ⟨g, cap, cur, hv, by omega, r⟩

/-- What is owned stays owned while nothing that is there turns. -/
theorem Own.below {k : IntKind} {e base : Nat} {w w' : World} {v : Value} {xs : List Int} (h : Own k e base w v xs) (hb : Below w.heap.size w w') : Own k e base w' v xs := by
  obtain ⟨h1, h2⟩ := h
  refine ⟨h1, ?_⟩
  rcases h2 with h2 | ⟨g, cap, cur, hv, hg, hh, r⟩
  · exact .inl h2
  · exact .inr ⟨g, cap, cur, hv, hg, by rw [hb.block g (Array.getElem?_eq_some_iff.1 hh).1]; exact hh, r⟩

theorem Own.drewN {k : IntKind} {e base : Nat} {w : World} {v : Value} {xs : List Int} (h : Own k e base w v xs) (n : Nat) : Own k e base (w.drewN n) v xs := h

theorem drewN_ex (w : World) (a b : Nat) : ∃ m, (w.drewN a).drewN b = w.drewN m := ⟨a + b, World.drewN_drewN _ _ _⟩
theorem below_drewN {B : Nat} {w : World} (n : Nat) : Below B w (w.drewN n) := ⟨rfl, rfl, rfl, Nat.le_refl _, fun _ _ => rfl⟩
theorem below_drewN' {B : Nat} {a w : World} (h : Below B a w) (n : Nat) : Below B a (w.drewN n) := h.trans (below_drewN n)

theorem below_cells {W w1 : World} (hb : Below W.heap.size W w1) : (∀ b o, b < W.heap.size → w1.cell? ⟨b, o, none⟩ = W.cell? ⟨b, o, none⟩) ∧ (∀ b o, b < W.heap.size → w1.frozen? ⟨b, o, none⟩ = W.frozen? ⟨b, o, none⟩) :=
  ⟨fun b o h => hb.cell (p := ⟨b, o, none⟩) h, fun b o h => hb.frozen (p := ⟨b, o, none⟩) h⟩

/-! ### bits -/
theorem all_u8 {p : Int → Prop} (h : ∀ i : Fin 256, p ((i : Nat) : Int)) (x : Int) (h0 : 0 ≤ x) (h1 : x ≤ 255) : p x := by
  have t : p ((x.toNat : Nat) : Int) := h ⟨x.toNat, by omega⟩
  have e : ((x.toNat : Nat) : Int) = x := by omega
  rwa [e] at t
theorem and_127 : ∀ x : Int, 0 ≤ x → x ≤ 255 → bits .and .u8 x 127 = x % 128 := all_u8 (by decide +kernel)
theorem and_31 : ∀ x : Int, 0 ≤ x → x ≤ 255 → bits .and .u8 x 31 = x % 32 := all_u8 (by decide +kernel)
theorem and_32 : ∀ x : Int, 0 ≤ x → x ≤ 255 → (bits .and .u8 x 32 != 0) = decide (x / 32 % 2 = 1) := all_u8 (by decide +kernel)
theorem and_128 : ∀ x : Int, 0 ≤ x → x ≤ 255 → (bits .and .u8 x 128 != 0) = decide (128 ≤ x) := all_u8 (by decide +kernel)
theorem i64_nat (a : Nat) (ha : a < 9223372036854775808) : (BitVec.ofInt 64 (a : Int)).toNat = a := by
  rw [BitVec.ofInt_natCast, BitVec.toNat_ofNat]; exact Nat.mod_eq_of_lt (by omega)
theorem or_i64 (n : Nat) (t b : Int) (ht : 0 ≤ t) (hb : 0 ≤ b) (hn : b < 2 ^ n) (hs : t * 2 ^ n + b < 9223372036854775808) : bits .or .i64 (t * 2 ^ n) b = t * 2 ^ n + b := by
  obtain ⟨t, rfl⟩ := Int.eq_ofNat_of_zero_le ht
  obtain ⟨b, rfl⟩ := Int.eq_ofNat_of_zero_le hb
  have e : ((t : Int) * 2 ^ n) = ((2 ^ n * t : Nat) : Int) := by rw [Nat.mul_comm, Int.natCast_mul, Int.natCast_pow]; rfl
  rw [e] at hs ⊢
  have hn' : b < 2 ^ n := by exact_mod_cast hn
  have hs' : 2 ^ n * t + b < 9223372036854775808 := by omega
  have ho : 2 ^ n * t ||| b = 2 ^ n * t + b := (Nat.two_pow_add_eq_or_of_lt hn' t).symm
  show IntKind.i64.wrap ((BitVec.ofInt 64 ((2 ^ n * t : Nat) : Int) ||| BitVec.ofInt 64 (b : Int)).toNat : Int) = _
  rw [BitVec.toNat_or, i64_nat _ (by omega), i64_nat _ (by omega), ho, IntKind.wrap_i64]
  omega
theorem or_i64_7 (t b : Int) (ht : 0 ≤ t) (hb : 0 ≤ b) (hn : b < 128) (hs : t ≤ 1000000000000000) : bits .or .i64 (t * 128) b = t * 128 + b := or_i64 7 t b ht hb hn (by omega)
theorem or_i64_8 (t b : Int) (ht : 0 ≤ t) (hb : 0 ≤ b) (hn : b < 256) (hs : t ≤ 1000000000000000) : bits .or .i64 (t * 256) b = t * 256 + b := or_i64 8 t b ht hb hn (by omega)

/-- append(dst, src...): dst is the call's own, src any slice. -/
theorem wpList_app {P : Program} (w : World) {ops : Array Oper} {rest : List Oper} {o : Oper} {a : Act} {Q : Exit → Act → World → Prop} (hgd : o.guard = none) (s x : Operand) (t : TypeId)
    (ho : o.op = .call { callee := .builtin .append, args := #[s, x], argTypes := #[t, t] }) (k : IntKind)
    (base e : Nat) (bytes : Nat) (ht : P.underlying t = some (.slice e)) (hinfo : (P.info? e).map (fun i => (i.zero, i.size, i.bytes)) = some (some (.int k 0), 1, bytes))
    (v : Value) (xs ys : List Int) (hs : a.eval s = v) (hown : Own k e base w v xs) (u : Value) (hx : a.eval x = u) (hu : Sl k w u ys)
    (h63 : xs.length + ys.length ≤ maxLen) (hbytes : (xs.length + ys.length) * bytes ≤ 140737488355328) (hbase : base ≤ w.heap.size)
    (h : ∀ v' w', Own k e base w' v' (xs ++ ys) → w.grownBy w' v.ownBlock → Below base w w' → (v' = .slice none 0 0 ↔ v = .slice none 0 0 ∧ ys = []) → wpList P ops Q rest (a.put o.dst v') w') : wpList P ops Q (o :: rest) a w := by
  obtain ⟨i, hi, hz0, hz1, hz2⟩ := info_parts hinfo
  have hbel : ∀ w', w.grownBy w' v.ownBlock → Below base w w' := fun w' hg => (Below.refl base w).grown hg hbase (fun k hk => (World.ownsRow.lt hown k hk).1)
  obtain ⟨ao, cap, rfl, hl, hm, hu⟩ := hu
  rcases hu with rfl | ⟨b, off, rfl, hbb, hc⟩
  · have hy : ys = [] := List.eq_nil_of_length_eq_zero (by omega)
    subst hy
    simp only [List.length_nil] at hx
    match ao, hx with
    | none, hx =>
      refine wpList_plain hgd fun K hK => ?_
      have hrun := run_append_owned_none (P := P) w base t o.type e i 1 ht hi v xs.length (xs.map (Value.int k)) hown
      unfold Oper.wp
      simp [execOp, ho, resolve, invoke, builtin, hs, hx, hrun, Result.andThen]
      exact hK _ _ (h v w (by rw [List.append_nil]; exact hown) (World.grownBy.refl _ _) (Below.refl _ _) (by simp))
    | some ad, hx =>
      refine wpList_append_own w hgd s x t ho base e i (.int k 0) 1 bytes ht hi hz0 hz1 hz2 rfl (by decide) v xs.length (xs.map (Value.int k)) hs hown ad 0 0 [] hx (by simp) (fun j u hj => by simp at hj) (fun u hu => by cases hu) h63 hbytes hbase ?_
      intro v' w' hown' hg hnil
      refine h v' w' (by simpa [Own] using hown') hg (hbel w' hg) (hnil.trans ?_)
      simp
  · refine wpList_append_own w hgd s x t ho base e i (.int k 0) 1 bytes ht hi hz0 hz1 hz2 rfl (by decide) v xs.length (xs.map (Value.int k)) hs hown ⟨b, off, none⟩ ys.length cap (ys.map (Value.int k)) hx (by simp) ?_ (ints_oneCell k ys) h63 hbytes hbase ?_
    · intro j u hj
      rw [List.getElem?_map] at hj
      have hadd : (⟨b, off, none⟩ : Addr).add j = ⟨b, off + j, none⟩ := by unfold Addr.add; split <;> simp_all
      rcases Nat.lt_or_ge j ys.length with hjl | hjl
      · rw [hadd, hc j hjl, ← hj, List.getD_eq_getElem?_getD, List.getElem?_eq_getElem hjl]; rfl
      · rw [List.getElem?_eq_none hjl] at hj; cases hj
    · intro v' w' hown' hg hnil
      refine h v' w' (by simpa [Own] using hown') hg (hbel w' hg) (hnil.trans ?_)
      constructor
      · rintro ⟨a, b⟩; exact ⟨a, List.eq_nil_of_length_eq_zero b⟩
      · rintro ⟨a, rfl⟩; exact ⟨a, rfl⟩

/-- v[l:h] of a slice that holds xs. -/
theorem run_cut {P : Program} (w : World) (t e : TypeId) (ht : P.underlying t = some (.slice e)) {z : Value} {bytes : Nat} (hinfo : (P.info? e).map (fun i => (i.zero, i.size, i.bytes)) = some (some z, 1, bytes)) (k : IntKind)
    (v : Value) (xs : List Int) (hs : Sl k w v xs) (lo hi : Option Value) (l h : Nat) (hlo : (lo = none ∧ l = 0) ∨ ∃ kk, lo = some (.int kk (l : Int))) (hhi : (hi = none ∧ h = xs.length) ∨ ∃ kk, hi = some (.int kk (h : Int)))
    (hlh : l ≤ h) (hh : h ≤ xs.length) :
    ∃ v', (Instr.sliceAt t v lo hi none).run P w = .ok v' w ∧ Sl k w v' ((xs.drop l).take (h - l)) := by
  obtain ⟨i, hi', hz0, hz1, hz2⟩ := info_parts hinfo
  obtain ⟨a, cap, rfl, hl, hm, hc⟩ := hs
  have hrun : (Instr.sliceAt t (.slice a xs.length cap) lo hi none).run P w = .ok (.slice (if cap = l then a else a.map (·.add (l * 1))) (h - l) (cap - l)) w := by
    have e1 : (0 : Int) ≤ (l : Int) ∧ (l : Int) ≤ (h : Int) := by omega
    have e2 : (0 : Int) ≤ (h : Int) ∧ (h : Int) ≤ (cap : Int) := by omega
    rcases hlo with ⟨rfl, rfl⟩ | ⟨kl, rfl⟩ <;> rcases hhi with ⟨rfl, rfl⟩ | ⟨kh, rfl⟩ <;>
      simp [Instr.sliceAt, Instr.slice, run_underlying ht, Instr.sliceBounds, Instr.sliceBound, asIntOf, sizeOf, typeInfo, hi', hz1, e1, e2]
    · intro hx; omega
    · intro hx; omega
    · rw [if_pos (by omega), if_pos (by omega)]
  refine ⟨_, hrun, ?_⟩
  have hlen : ((xs.drop l).take (h - l)).length = h - l := by simp; omega
  rcases hc with rfl | ⟨b, off, rfl, hbb, hc⟩
  · have h0 : h = 0 := by omega
    have l0 : l = 0 := by omega
    subst h0 l0
    exact ⟨_, 0, by simp; rfl, by simp, hm, .inl rfl⟩
  · refine ⟨_, cap - l, by rw [hlen], by rw [hlen]; omega, by omega, .inr ⟨b, (if cap = l then off else off + l), ?_, fun h0 => hbb (by omega), fun j hj => ?_⟩⟩
    · split
      · rfl
      · simp [Addr.add]
    · rw [hlen] at hj
      rw [if_neg (by omega), Nat.add_assoc, hc (l + j) (by omega)]
      congr 2
      simp only [List.getD_eq_getElem?_getD, List.getElem?_take, if_pos hj, List.getElem?_drop]

/-- v[i:] -/
theorem wpList_from {P : Program} (w : World) {ops : Array Oper} {rest : List Oper} {o : Oper} {a : Act} {Q : Exit → Act → World → Prop} (hgd : o.guard = none) (x lo : Operand) (t : TypeId)
    (ho : o.op = .slice t x (some lo) none none) (k : IntKind) (e : TypeId) (bytes : Nat) (ht : P.underlying t = some (.slice e)) (hinfo : (P.info? e).map (fun i => (i.zero, i.size, i.bytes)) = some (some (.int k 0), 1, bytes))
    (v : Value) (xs : List Int) (hx : a.eval x = v) (hs : Sl k w v xs) (kk : IntKind) (i : Int) (hlo : a.eval lo = .int kk i) (h0 : 0 ≤ i) (h1 : i ≤ xs.length)
    (h : ∀ v', Sl k w v' (xs.drop i.toNat) → wpList P ops Q rest (a.put o.dst v') w) : wpList P ops Q (o :: rest) a w := by
  obtain ⟨n, rfl⟩ := Int.eq_ofNat_of_zero_le h0
  obtain ⟨v', hrun, hv'⟩ := run_cut (P := P) w t e ht hinfo k v xs hs (some (.int kk (n : Int))) none n xs.length (.inr ⟨kk, rfl⟩) (.inl ⟨rfl, rfl⟩) (by omega) (Nat.le_refl _)
  refine wpList_plain hgd fun K hK => ?_
  unfold Oper.wp
  simp [execOp, ho, hx, hlo, hrun, Result.andThen]
  refine hK _ _ (h v' ?_)
  rw [List.take_of_length_le (by simp)] at hv'
  exact hv'

/-- v[i:j] -/
theorem wpList_span {P : Program} (w : World) {ops : Array Oper} {rest : List Oper} {o : Oper} {a : Act} {Q : Exit → Act → World → Prop} (hgd : o.guard = none) (x lo hi : Operand) (t : TypeId)
    (ho : o.op = .slice t x (some lo) (some hi) none) (k : IntKind) (e : TypeId) (bytes : Nat) (ht : P.underlying t = some (.slice e)) (hinfo : (P.info? e).map (fun i => (i.zero, i.size, i.bytes)) = some (some (.int k 0), 1, bytes))
    (v : Value) (xs : List Int) (hx : a.eval x = v) (hs : Sl k w v xs) (kk kj : IntKind) (i j : Int) (hlo : a.eval lo = .int kk i) (hhi : a.eval hi = .int kj j) (h0 : 0 ≤ i) (hij : i ≤ j) (h1 : j ≤ xs.length)
    (h : ∀ v', Sl k w v' ((xs.drop i.toNat).take (j.toNat - i.toNat)) → wpList P ops Q rest (a.put o.dst v') w) : wpList P ops Q (o :: rest) a w := by
  obtain ⟨n, rfl⟩ := Int.eq_ofNat_of_zero_le h0
  obtain ⟨m, rfl⟩ := Int.eq_ofNat_of_zero_le (Int.le_trans h0 hij)
  obtain ⟨v', hrun, hv'⟩ := run_cut (P := P) w t e ht hinfo k v xs hs (some (.int kk (n : Int))) (some (.int kj (m : Int))) n m (.inr ⟨kk, rfl⟩) (.inr ⟨kj, rfl⟩) (by omega) (by omega)
  refine wpList_plain hgd fun K hK => ?_
  unfold Oper.wp
  simp [execOp, ho, hx, hlo, hhi, hrun, Result.andThen]
  exact hK _ _ (h v' hv')

/-- v[:j] -/
theorem wpList_to {P : Program} (w : World) {ops : Array Oper} {rest : List Oper} {o : Oper} {a : Act} {Q : Exit → Act → World → Prop} (hgd : o.guard = none) (x hi : Operand) (t : TypeId)
    (ho : o.op = .slice t x none (some hi) none) (k : IntKind) (e : TypeId) (bytes : Nat) (ht : P.underlying t = some (.slice e)) (hinfo : (P.info? e).map (fun i => (i.zero, i.size, i.bytes)) = some (some (.int k 0), 1, bytes))
    (v : Value) (xs : List Int) (hx : a.eval x = v) (hs : Sl k w v xs) (kj : IntKind) (j : Int) (hhi : a.eval hi = .int kj j) (h0 : 0 ≤ j) (h1 : j ≤ xs.length)
    (h : ∀ v', Sl k w v' (xs.take j.toNat) → wpList P ops Q rest (a.put o.dst v') w) : wpList P ops Q (o :: rest) a w := by
  obtain ⟨m, rfl⟩ := Int.eq_ofNat_of_zero_le h0
  obtain ⟨v', hrun, hv'⟩ := run_cut (P := P) w t e ht hinfo k v xs hs none (some (.int kj (m : Int))) 0 m (.inl ⟨rfl, rfl⟩) (.inr ⟨kj, rfl⟩) (by omega) (by omega)
  refine wpList_plain hgd fun K hK => ?_
  unfold Oper.wp
  simp [execOp, ho, hx, hhi, hrun, Result.andThen]
  exact hK _ _ (h v' (by simpa using hv'))

/-! ### guards: each fits one kind of operation alone -/
section
variable {P : Program} {ops : Array Oper} {Q : Exit → Act → World → Prop} {rest : List Oper} {a : Act} {w : World} {dst : Option Tmp} {t ty : TypeId} {pos : String} {after : Array Edge} {x y z : Operand}
theorem at_from (h : wpList P ops Q (Oper.mk dst (Op.slice t x (some y) none none) ty pos after none :: rest) a w) : wpList P ops Q (Oper.mk dst (Op.slice t x (some y) none none) ty pos after none :: rest) a w := h
theorem at_to (h : wpList P ops Q (Oper.mk dst (Op.slice t x none (some y) none) ty pos after none :: rest) a w) : wpList P ops Q (Oper.mk dst (Op.slice t x none (some y) none) ty pos after none :: rest) a w := h
theorem at_span (h : wpList P ops Q (Oper.mk dst (Op.slice t x (some y) (some z) none) ty pos after none :: rest) a w) : wpList P ops Q (Oper.mk dst (Op.slice t x (some y) (some z) none) ty pos after none :: rest) a w := h
end

/-- A block of cells that the call laid. -/
def Box (t : TypeId) (cs : List Value) (B : Nat) (w : World) : Prop := w.heap[B]? = some (.cells cs.toArray t)

theorem Box.made (w : World) (t : TypeId) (cs : List Value) : Box t cs w.heap.size (w.alloc (.cells cs.toArray t)) := heap_alloc_new w _
theorem Box.lt {t : TypeId} {cs : List Value} {B : Nat} {w : World} (h : Box t cs B w) : B < w.heap.size := (Array.getElem?_eq_some_iff.1 h).1
theorem Box.cell {t : TypeId} {cs : List Value} {B : Nat} {w : World} (h : Box t cs B w) (j : Nat) : w.cell? ⟨B, j, none⟩ = cs[j]? := by
  rw [cell_of_row w B j cs.toArray t (0, 0) h]; simp
theorem Box.below {t : TypeId} {cs : List Value} {B base : Nat} {w w' : World} (h : Box t cs B w) (hb : Below base w w') (hB : B < base) : Box t cs B w' := (hb.block B hB).trans h
theorem Box.drewN {t : TypeId} {cs : List Value} {B : Nat} {w : World} (h : Box t cs B w) (n : Nat) : Box t cs B (w.drewN n) := h
theorem Own.other {k : IntKind} {e base : Nat} {w : World} {v : Value} {xs : List Int} (h : Own k e base w v xs) {t : TypeId} {cs : List Value} {B : Nat} (hb : Box t cs B w) (ht : t ≠ e) : some B ≠ v.ownBlock := by
  intro hB
  rcases h.2 with ⟨rfl, _⟩ | ⟨g, cap, cur, rfl, _, hg, _⟩
  · simp [Value.ownBlock] at hB
  · simp [Value.ownBlock] at hB
    subst hB
    have hb' : w.heap[B]? = some (.cells cs.toArray t) := hb
    rw [hg] at hb'
    simp at hb'
    exact ht hb'.2.symm
theorem Box.grown {k : IntKind} {e base : Nat} {w w' : World} {v : Value} {xs : List Int} {t : TypeId} {cs : List Value} {B : Nat} (hb : Box t cs B w) (h : Own k e base w v xs) (hg : w.grownBy w' v.ownBlock) (ht : t ≠ e) : Box t cs B w' :=
  (hg.block B hb.lt (h.other hb ht)).trans hb

/-- the one byte that a literal of one element lays -/
theorem one_sl {k : IntKind} {w : World} {x : Int} {e : TypeId} {n : Nat} (hn : n = w.heap.size) : Sl k (w.alloc (.cells #[.int k x] e)) (.slice (some ⟨n, 0, none⟩) 1 1) [x] := by
  subst hn
  refine ⟨_, 1, rfl, by simp, by unfold maxLen; omega, .inr ⟨w.heap.size, 0, rfl, fun _ => by simp, fun i hi => ?_⟩⟩
  simp only [List.length_cons, List.length_nil] at hi
  obtain rfl : i = 0 := by omega
  rw [cell_of_row _ w.heap.size (0 + 0) #[.int k x] e (0, 0) (heap_alloc_new w _)]
  rfl
theorem Own.alloc {k : IntKind} {e base : Nat} {w : World} {v : Value} {xs : List Int} (h : Own k e base w v xs) (o : Obj) : Own k e base (w.alloc o) v xs := World.ownsRow.alloc h o
theorem Own.drew {k : IntKind} {e base : Nat} {w : World} {v : Value} {xs : List Int} (h : Own k e base w v xs) : Own k e base w.drew v xs := h
theorem Box.alloc {t : TypeId} {cs : List Value} {B : Nat} {w : World} (h : Box t cs B w) (o : Obj) : Box t cs B (w.alloc o) := (Below.heap_alloc w o B h.lt).trans h

theorem Box.five {t : TypeId} {a b c d e : Value} {B : Nat} {w : World} (h : Box t [a, b, c, d, e] B w) :
    w.cell? ⟨B, 0, none⟩ = some a ∧ w.cell? ⟨B, 1, none⟩ = some b ∧ w.cell? ⟨B, 2, none⟩ = some c ∧ w.cell? ⟨B, 3, none⟩ = some d ∧ w.cell? ⟨B, 4, none⟩ = some e :=
  ⟨h.cell 0, h.cell 1, h.cell 2, h.cell 3, h.cell 4⟩
theorem Box.ice {t : TypeId} {cs : List Value} {B : Nat} {w : World} (h : Box t cs B w) (j : Nat) : w.frozen? ⟨B, j, none⟩ = false := frozen_of_row w B j _ t h
theorem Box.ice5 {t : TypeId} {cs : List Value} {B : Nat} {w : World} (h : Box t cs B w) :
    w.frozen? ⟨B, 0, none⟩ = false ∧ w.frozen? ⟨B, 1, none⟩ = false ∧ w.frozen? ⟨B, 2, none⟩ = false ∧ w.frozen? ⟨B, 3, none⟩ = false ∧ w.frozen? ⟨B, 4, none⟩ = false :=
  ⟨h.ice 0, h.ice 1, h.ice 2, h.ice 3, h.ice 4⟩

theorem Box.set {t : TypeId} {cs : List Value} {B : Nat} {w : World} (h : Box t cs B w) (j : Nat) (v : Value) : Box t (cs.set j v) B (w.setCell ⟨B, j, none⟩ v) := by
  have h' : w.heap[B]? = some (.cells cs.toArray t) := h
  show (w.setCell ⟨B, j, none⟩ v).heap[B]? = _
  simp [World.setCell, Array.getElem?_modify, h']
theorem Box.store5 {t : TypeId} {a b c d e : Value} {B : Nat} {w : World} (h : Box t [a, b, c, d, e] B w) (a' b' c' d' e' : Value) :
    Box t [a', b', c', d', e'] B (((((w.setCell ⟨B, 0, none⟩ a').setCell ⟨B, 1, none⟩ b').setCell ⟨B, 2, none⟩ c').setCell ⟨B, 3, none⟩ d').setCell ⟨B, 4, none⟩ e') :=
  ((((h.set 0 a').set 1 b').set 2 c').set 3 d').set 4 e'
theorem below_store5 {base B : Nat} {a b c d e : Value} {w0 w : World} (h : Below base w0 w) (hB : base ≤ B) :
    Below base w0 (((((w.setCell ⟨B, 0, none⟩ a).setCell ⟨B, 1, none⟩ b).setCell ⟨B, 2, none⟩ c).setCell ⟨B, 3, none⟩ d).setCell ⟨B, 4, none⟩ e) :=
  ((((h.setCell hB _).setCell hB _).setCell hB _).setCell hB _).setCell hB _
theorem Own.set {k : IntKind} {e base : Nat} {w : World} {v : Value} {xs : List Int} (h : Own k e base w v xs) {t : TypeId} {cs : List Value} {B : Nat} (hb : Box t cs B w) (ht : t ≠ e) (j : Nat) (u : Value) : Own k e base (w.setCell ⟨B, j, none⟩ u) v xs := by
  have ho := h.other hb ht
  obtain ⟨h1, h2⟩ := h
  refine ⟨h1, ?_⟩
  rcases h2 with h2 | ⟨g, cap, cur, rfl, hg, hh, r⟩
  · exact .inl h2
  · refine .inr ⟨g, cap, cur, rfl, hg, ?_, r⟩
    rw [Below.heap_setCell _ _ _ _ (by simpa [Value.ownBlock] using fun e => ho (by simp [Value.ownBlock, e]))]
    exact hh
theorem Own.store5 {k : IntKind} {e base : Nat} {w : World} {v : Value} {xs : List Int} (h : Own k e base w v xs) {t : TypeId} {a b c d f : Value} {B : Nat} (hb : Box t [a, b, c, d, f] B w) (ht : t ≠ e) (a' b' c' d' f' : Value) :
    Own k e base (((((w.setCell ⟨B, 0, none⟩ a').setCell ⟨B, 1, none⟩ b').setCell ⟨B, 2, none⟩ c').setCell ⟨B, 3, none⟩ d').setCell ⟨B, 4, none⟩ f') v xs :=
  ((((h.set hb ht 0 a').set (hb.set 0 a') ht 1 b').set ((hb.set 0 a').set 1 b') ht 2 c').set (((hb.set 0 a').set 1 b').set 2 c') ht 3 d').set ((((hb.set 0 a').set 1 b').set 2 c').set 3 d') ht 4 f'

/-- v[l:h] as a run equation of every world, for statements whose order is open. -/
theorem cut_all {P : Program} (w0 : World) (t e : TypeId) (ht : P.underlying t = some (.slice e)) {z : Value} {bytes : Nat} (hinfo : (P.info? e).map (fun i => (i.zero, i.size, i.bytes)) = some (some z, 1, bytes)) (k : IntKind)
    (v : Value) (xs : List Int) (hs : Sl k w0 v xs) (lo hi : Option Value) (l h : Nat) (hlo : (lo = none ∧ l = 0) ∨ ∃ kk, lo = some (.int kk (l : Int))) (hhi : (hi = none ∧ h = xs.length) ∨ ∃ kk, hi = some (.int kk (h : Int)))
    (hlh : l ≤ h) (hh : h ≤ xs.length) :
    ∃ v', (∀ w, (Instr.sliceAt t v lo hi none).run P w = .ok v' w) ∧ (∀ w, (Instr.slice t v lo hi none).run P w = .ok v' w) ∧ ∀ w, Sl k w v xs → Sl k w v' ((xs.drop l).take (h - l)) := by
  obtain ⟨v', hrun, _⟩ := run_cut w0 t e ht hinfo k v xs hs lo hi l h hlo hhi hlh hh
  have hv : ∀ w, ∃ v'', (Instr.sliceAt t v lo hi none).run P w = .ok v'' w ∧ v'' = v' ∧ (Instr.slice t v lo hi none).run P w = .ok v'' w := by
    intro w
    obtain ⟨a, cap, rfl, hl, hm, _⟩ := hs
    obtain ⟨i, hi', hz0, hz1, hz2⟩ := info_parts hinfo
    have gen : ∀ w, (Instr.sliceAt t (.slice a xs.length cap) lo hi none).run P w = .ok (.slice (if cap = l then a else a.map (·.add (l * 1))) (h - l) (cap - l)) w ∧ (Instr.slice t (.slice a xs.length cap) lo hi none).run P w = .ok (.slice (if cap = l then a else a.map (·.add (l * 1))) (h - l) (cap - l)) w := by
      intro w
      have e1 : (0 : Int) ≤ (l : Int) ∧ (l : Int) ≤ (h : Int) := by omega
      have e2 : (0 : Int) ≤ (h : Int) ∧ (h : Int) ≤ (cap : Int) := by omega
      rcases hlo with ⟨rfl, rfl⟩ | ⟨kl, rfl⟩ <;> rcases hhi with ⟨rfl, rfl⟩ | ⟨kh, rfl⟩ <;>
        simp [Instr.sliceAt, Instr.slice, run_underlying ht, Instr.sliceBounds, Instr.sliceBound, asIntOf, sizeOf, typeInfo, hi', hz1, e1, e2]
      · intro hx; omega
      · intro hx; omega
      · rw [if_pos (by omega), if_pos (by omega)]
    have g0 := (gen w0).1
    rw [hrun] at g0
    injection g0 with g0
    exact ⟨_, (gen w).1, g0.symm, (gen w).2⟩
  refine ⟨v', fun w => ?_, fun w => ?_, fun w hw => ?_⟩
  · obtain ⟨_, h1, rfl, _⟩ := hv w; exact h1
  · obtain ⟨_, _, rfl, h1⟩ := hv w; exact h1
  · obtain ⟨v2, h2, hs2⟩ := run_cut w t e ht hinfo k v xs hw lo hi l h hlo hhi hlh hh
    obtain ⟨_, h1, rfl, _⟩ := hv w
    rw [h1] at h2
    injection h2 with h2
    rw [h2]; exact hs2

/-- a literal's row -/
theorem lit_sl {k : IntKind} {w : World} {xs : List Int} {e : TypeId} {n len : Nat} {cs : Array Value} (hn : n = w.heap.size) (hc : cs = (xs.map (Value.int k)).toArray) (hl : len = xs.length) (hm : xs.length ≤ 1000000) :
    Sl k (w.alloc (.cells cs e)) (.slice (some ⟨n, 0, none⟩) len len) xs := by
  subst hn hc hl
  refine ⟨_, xs.length, rfl, Nat.le_refl _, by unfold maxLen; omega, .inr ⟨w.heap.size, 0, rfl, fun _ => by simp, fun i hi => ?_⟩⟩
  rw [cell_of_row _ w.heap.size (0 + i) _ e (0, 0) (heap_alloc_new w _)]
  simp only [Nat.zero_add, List.getElem?_toArray, List.getElem?_map, List.getD_eq_getElem?_getD, List.getElem?_eq_getElem hi, Option.map_some, Option.getD_some]

/-- What is owned from base on stays while a block below base is written. -/
theorem Own.apart {k : IntKind} {e base : Nat} {w w' : World} {v : Value} {xs : List Int} {row : Option Nat} (h : Own k e base w v xs) (hr : ∀ r, row = some r → r < base) (hg : w.grownBy w' row) : Own k e base w' v xs := by
  refine World.ownsRow.kept h hg ?_
  cases hv : v.ownBlock with
  | none => exact .inl rfl
  | some g =>
    refine .inr fun hrow => ?_
    have h1 := (World.ownsRow.lt h g hv).1
    have h2 := hr g hrow.symm
    omega
theorem Own.lt' {k : IntKind} {e base : Nat} {w : World} {v : Value} {xs : List Int} (h : Own k e base w v xs) : ∀ r, v.ownBlock = some r → r < w.heap.size := fun r hr => (World.ownsRow.lt h r hr).2

/-- a literal's row is the call's own -/
theorem lit_own {k : IntKind} {w : World} {xs : List Int} {e base n len : Nat} {cs : Array Value} (hn : n = w.heap.size) (hb : base ≤ w.heap.size) (hc : cs = (xs.map (Value.int k)).toArray) (hl : len = xs.length) (hm : xs.length ≤ 1000000) :
    Own k e base (w.alloc (.cells cs e)) (.slice (some ⟨n, 0, none⟩) len len) xs := by
  subst hn hc hl
  have := World.ownsRow_lit (base := base) (e := e) (size := 1) w (xs.map (Value.int k)).toArray xs.length hb (by unfold maxLen; omega) (by simp)
  simpa [Own] using this

end Go.Proofs.YtidjjaginindoaaGreat

/-! HangSpec -/
namespace Go.Proofs.YtidjjaginindoaaGreat
open Go.RowKit

/-- the syllable of the number n comes apart so -/
def partsN (n : Nat) : List Int := if n % 28 = 0 then [4352 + (n : Int) / 588, 4449 + (n : Int) % 588 / 28] else [4352 + (n : Int) / 588, 4449 + (n : Int) % 588 / 28, 4519 + (n : Int) % 28]
def splitS (c : Int) : List Int := if 44032 ≤ c ∧ c ≤ 55203 then partsN (c - 44032).toNat else []
def joinS (a b : Int) : Int × Bool :=
  if 4352 ≤ a ∧ a ≤ 4370 ∧ 4449 ≤ b ∧ b ≤ 4469 then (44032 + ((a - 4352) * 21 + (b - 4449)) * 28, true)
  else if 44032 ≤ a ∧ a ≤ 55203 ∧ (a - 44032) % 28 = 0 ∧ 4520 ≤ b ∧ b ≤ 4546 then (a + b - 4519, true) else (0, false)
theorem splitS_in {n : Nat} (h : n ≤ 11171) : splitS (44032 + (n : Int)) = partsN n := by
  unfold splitS
  rw [if_pos (by omega), show (44032 + (n : Int) - 44032).toNat = n by omega]
theorem splitS_out {c : Int} (h : ¬ (44032 ≤ c ∧ c ≤ 55203)) : splitS c = [] := by
  unfold splitS
  rw [if_neg h]
theorem join_lv {l v : Nat} (hl : l < 19) (hv : v < 21) : joinS (4352 + (l : Int)) (4449 + (v : Int)) = (44032 + (((21 * l + v) * 28 : Nat) : Int), true) := by
  unfold joinS
  rw [if_pos (by omega)]
  congr 1
  omega
theorem join_lvt {m t : Nat} (hm : m < 399) (ht : 1 ≤ t) (h2 : t < 28) : joinS (44032 + ((m * 28 : Nat) : Int)) (4519 + (t : Int)) = (44032 + ((m * 28 + t : Nat) : Int), true) := by
  unfold joinS
  rw [if_neg (by omega), if_pos (by omega)]
  congr 1
  omega
/-- joining what a syllable splits to restores it -/
theorem join_back {n : Nat} (h : n ≤ 11171) : joinS (4352 + (n : Int) / 588) (4449 + (n : Int) % 588 / 28) = (44032 + ((n / 28 * 28 : Nat) : Int), true) := by
  have := join_lv (l := n / 588) (v := n % 588 / 28) (by omega) (by omega)
  rw [show 4352 + (n : Int) / 588 = 4352 + ((n / 588 : Nat) : Int) by omega, show 4449 + (n : Int) % 588 / 28 = 4449 + ((n % 588 / 28 : Nat) : Int) by omega, this]
  congr 2
  omega
theorem join_back2 {n : Nat} (h : n ≤ 11171) (ht : n % 28 ≠ 0) : joinS (44032 + ((n / 28 * 28 : Nat) : Int)) (4519 + (n : Int) % 28) = (44032 + (n : Int), true) := by
  have := join_lvt (m := n / 28) (t := n % 28) (by omega) (by omega) (by omega)
  rw [show 4519 + (n : Int) % 28 = 4519 + ((n % 28 : Nat) : Int) by omega, this]
  congr 2
  omega
/-- what three letters make splits to them -/
theorem parts_lvt {l v t : Nat} (hv : v < 21) (ht : t < 28) : partsN ((21 * l + v) * 28 + t) = if t = 0 then [4352 + (l : Int), 4449 + (v : Int)] else [4352 + (l : Int), 4449 + (v : Int), 4519 + (t : Int)] := by
  unfold partsN
  have e1 : ((21 * l + v) * 28 + t) % 28 = t := by omega
  have e2 : (((21 * l + v) * 28 + t : Nat) : Int) / 588 = (l : Int) := by omega
  have e3 : (((21 * l + v) * 28 + t : Nat) : Int) % 588 / 28 = (v : Int) := by omega
  have e4 : (((21 * l + v) * 28 + t : Nat) : Int) % 28 = (t : Int) := by omega
  rw [e1, e2, e3, e4]
/-- nothing is joined to a syllable that has a trailing letter -/
theorem join_full {n : Nat} (h : n ≤ 11171) (ht : n % 28 ≠ 0) (b : Int) : joinS (44032 + (n : Int)) b = (0, false) := by
  unfold joinS
  rw [if_neg (by omega), if_neg (by omega)]
theorem join_none {a b : Int} (h1 : ¬ (4352 ≤ a ∧ a ≤ 4370)) (h2 : ¬ (44032 ≤ a ∧ a ≤ 55203)) : joinS a b = (0, false) := by
  unfold joinS
  rw [if_neg (by omega), if_neg (by omega)]
end Go.Proofs.YtidjjaginindoaaGreat

/-! RngSpec -/
namespace Go.Proofs.YtidjjaginindoaaGreat

structure Rg where
  f : Int
  t : Int
  v : Int
deriving DecidableEq, Inhabited

def maxS : Int := 1114111
/-- the first range that has c -/
def lookS : List Rg → Int → Int
  | [], _ => 0
  | r :: l, c => if r.f ≤ c ∧ c ≤ r.t then r.v else lookS l c
/-- one range of a right table, behind one that ends at p -/
def okR (p : Int) (r : Rg) : Prop := 0 ≤ r.f ∧ r.f ≤ maxS ∧ r.f ≤ r.t ∧ r.t ≤ maxS ∧ 1 ≤ r.v ∧ r.v ≤ 65535 ∧ p < r.f
def okL : Int → List Rg → Prop
  | _, [] => True
  | p, r :: l => okR p r ∧ okL r.t l
instance (p : Int) (r : Rg) : Decidable (okR p r) := by unfold okR; exact inferInstance
instance decOkL : ∀ (p : Int) (l : List Rg), Decidable (okL p l)
  | _, [] => .isTrue trivial
  | p, r :: l => by
    unfold okL
    have := decOkL r.t l
    exact inferInstance
def flatS (l : List Rg) : Bool := decide (l.length ≤ 2000 ∧ okL (-1) l)

theorem lookS_zero : ∀ {l : List Rg} {p c : Int}, okL p l → c ≤ p → lookS l c = 0
  | [], _, _, _, _ => rfl
  | r :: l, p, c, h, hc => by
    have h1 := h.1
    unfold okR at h1
    rw [lookS, if_neg (by omega)]
    exact lookS_zero h.2 (by omega)
/-- of a right table a number is in one range alone -/
theorem lookS_mem : ∀ {l : List Rg} {p c : Int}, okL p l → ∀ {r : Rg}, r ∈ l → r.f ≤ c → c ≤ r.t → lookS l c = r.v
  | [], _, _, _, _, hm, _, _ => by cases hm
  | x :: l, p, c, h, r, hm, h1, h2 => by
    rcases List.mem_cons.1 hm with rfl | hm
    · rw [lookS, if_pos ⟨h1, h2⟩]
    · have hlow : ∀ {l : List Rg} {p : Int}, okL p l → ∀ {r : Rg}, r ∈ l → p < r.f := by
        intro l
        induction l with
        | nil => intro _ _ _ hm; cases hm
        | cons y l ih =>
          intro p h r hm
          have hy := h.1
          unfold okR at hy
          rcases List.mem_cons.1 hm with rfl | hm
          · omega
          · have := ih h.2 hm; omega
      have := hlow h.2 hm
      rw [lookS, if_neg (by omega)]
      exact lookS_mem h.2 hm h1 h2
theorem lookS_some : ∀ {l : List Rg} {c : Int}, lookS l c ≠ 0 → ∃ r ∈ l, r.f ≤ c ∧ c ≤ r.t ∧ lookS l c = r.v
  | [], _, h => absurd rfl h
  | x :: l, c, h => by
    rw [lookS] at h ⊢
    split
    · rename_i hx
      exact ⟨x, List.mem_cons_self .., hx.1, hx.2, rfl⟩
    · rename_i hx
      rw [if_neg hx] at h
      obtain ⟨r, hr, h1, h2, h3⟩ := lookS_some h
      exact ⟨r, List.mem_cons_of_mem _ hr, h1, h2, h3⟩
theorem okL_mem : ∀ {l : List Rg} {p : Int}, okL p l → ∀ {r : Rg}, r ∈ l → 0 ≤ r.f ∧ r.f ≤ r.t ∧ r.t ≤ maxS ∧ 1 ≤ r.v ∧ r.v ≤ 65535
  | [], _, _, _, hm => by cases hm
  | x :: l, p, h, r, hm => by
    rcases List.mem_cons.1 hm with rfl | hm
    · have := h.1; unfold okR at this; omega
    · exact okL_mem h.2 hm

/-! ### the packed table of what g says -/
def blk (g : Nat → Int) (k : Nat) : List Int := (List.range 256).map fun i => g (256 * k + i)
theorem blk_len (g : Nat → Int) (k : Nat) : (blk g k).length = 256 := by simp [blk]
theorem blk_at (g : Nat → Int) (k i : Nat) (h : i < 256) : (blk g k).getD i 0 = g (256 * k + i) := by simp [blk, List.getD_eq_getElem?_getD, h]
/-- which block, block by block -/
def packN (g : Nat → Int) : Nat → List Nat × List (List Int)
  | 0 => ([], [])
  | k + 1 => ((packN g k).1 ++ [(packN g k).2.idxOf (blk g k)], if blk g k ∈ (packN g k).2 then (packN g k).2 else (packN g k).2 ++ [blk g k])
theorem packN_ext {g h : Nat → Int} : ∀ {n : Nat}, (∀ c, c < 256 * n → g c = h c) → packN g n = packN h n
  | 0, _ => rfl
  | k + 1, e => by
    have hb : blk g k = blk h k := by
      unfold blk
      apply List.map_congr_left
      intro i hi
      exact e _ (by have := List.mem_range.1 hi; omega)
    have ih := packN_ext (g := g) (h := h) (n := k) (fun c hc => e c (by omega))
    rw [packN, packN, ih, hb]
structure PackOk (g : Nat → Int) (n : Nat) (p : List Nat × List (List Int)) : Prop where
  len : p.1.length = n
  nodup : p.2.Nodup
  each : ∀ b ∈ p.2, b.length = 256
  at_ : ∀ k, k < n → p.1.getD k 0 < p.2.length ∧ p.2.getD (p.1.getD k 0) [] = blk g k
  from_ : ∀ b ∈ p.2, ∃ k, k < n ∧ b = blk g k
theorem packN_ok (g : Nat → Int) : ∀ n, PackOk g n (packN g n)
  | 0 => ⟨rfl, List.nodup_nil, fun _ h => (nomatch h), fun _ h => absurd h (by omega), fun _ h => (nomatch h)⟩
  | n + 1 => by
    have ih := packN_ok g n
    rw [packN]
    generalize packN g n = p at ih
    obtain ⟨ix, bs⟩ := p
    have h1 := ih.len
    simp only at h1
    by_cases hm : blk g n ∈ bs
    · refine ⟨by simp [h1], by simp only [if_pos hm]; exact ih.nodup, by simp only [if_pos hm]; exact ih.each, fun k hk => ?_, fun b hb => ?_⟩
      · simp only [if_pos hm]
        rcases Nat.lt_or_ge k n with hl | hl
        · have := ih.at_ k hl
          rwa [show (ix ++ [bs.idxOf (blk g n)]).getD k 0 = ix.getD k 0 by simp [List.getD_eq_getElem?_getD, List.getElem?_append_left (show k < ix.length by omega)]]
        · obtain rfl : k = n := by omega
          rw [show (ix ++ [bs.idxOf (blk g k)]).getD k 0 = bs.idxOf (blk g k) by simp [List.getD_eq_getElem?_getD, ← h1]]
          have hlt := List.idxOf_lt_length_iff.2 hm
          exact ⟨hlt, by rw [List.getD_eq_getElem?_getD, List.getElem?_eq_getElem hlt]; simp⟩
      · simp only [if_pos hm] at hb
        obtain ⟨k, hk, he⟩ := ih.from_ b hb
        exact ⟨k, by omega, he⟩
    · refine ⟨by simp [h1], by
        simp only [if_neg hm]
        rw [List.nodup_append]
        exact ⟨ih.nodup, by simp, fun a ha b hb => by
          simp only [List.mem_singleton] at hb
          subst hb
          rintro rfl
          exact hm ha⟩, by
        simp only [if_neg hm]
        intro b hb
        rcases List.mem_append.1 hb with hb | hb
        · exact ih.each b hb
        · simp only [List.mem_singleton] at hb
          subst hb
          exact blk_len g n, fun k hk => ?_, fun b hb => ?_⟩
      · simp only [if_neg hm]
        rcases Nat.lt_or_ge k n with hl | hl
        · have := ih.at_ k hl
          rw [show (ix ++ [bs.idxOf (blk g n)]).getD k 0 = ix.getD k 0 by simp [List.getD_eq_getElem?_getD, List.getElem?_append_left (show k < ix.length by omega)]]
          simp only at this
          exact ⟨by rw [List.length_append]; exact Nat.lt_of_lt_of_le this.1 (Nat.le_add_right _ _), by rw [List.getD_eq_getElem?_getD, List.getElem?_append_left this.1, ← List.getD_eq_getElem?_getD]; exact this.2⟩
        · obtain rfl : k = n := by omega
          rw [show (ix ++ [bs.idxOf (blk g k)]).getD k 0 = bs.idxOf (blk g k) by simp [List.getD_eq_getElem?_getD, ← h1], List.idxOf_eq_length hm]
          exact ⟨by simp, by simp [List.getD_eq_getElem?_getD]⟩
      · simp only [if_neg hm] at hb
        rcases List.mem_append.1 hb with hb | hb
        · obtain ⟨k, hk, he⟩ := ih.from_ b hb
          exact ⟨k, by omega, he⟩
        · simp only [List.mem_singleton] at hb
          exact ⟨n, by omega, hb⟩

/-! ### blocks, one behind the other -/
theorem flat_len : ∀ {bs : List (List Int)}, (∀ b ∈ bs, b.length = 256) → bs.flatten.length = 256 * bs.length
  | [], _ => rfl
  | b :: bs, h => by
    rw [List.flatten_cons, List.length_append, h b (List.mem_cons_self ..), flat_len (fun x hx => h x (List.mem_cons_of_mem _ hx)), List.length_cons]
    omega
theorem flat_at : ∀ {bs : List (List Int)} {q i : Nat}, (∀ b ∈ bs, b.length = 256) → q < bs.length → i < 256 → bs.flatten.getD (256 * q + i) 0 = (bs.getD q []).getD i 0
  | [], _, _, _, h, _ => by simp at h
  | b :: bs, 0, i, h, _, hi => by
    have hb := h b (List.mem_cons_self ..)
    rw [List.flatten_cons]
    simp only [List.getD_eq_getElem?_getD]
    rw [List.getElem?_append_left (by omega)]
    simp
  | b :: bs, q + 1, i, h, hq, hi => by
    have hb := h b (List.mem_cons_self ..)
    have ih := flat_at (bs := bs) (q := q) (i := i) (fun x hx => h x (List.mem_cons_of_mem _ hx)) (by simpa using hq) hi
    rw [List.flatten_cons]
    simp only [List.getD_eq_getElem?_getD] at ih ⊢
    rw [List.getElem?_append_right (by omega), show 256 * (q + 1) + i - b.length = 256 * q + i by omega, ih]
    simp
theorem flat_drop : ∀ {bs : List (List Int)} {q : Nat}, (∀ b ∈ bs, b.length = 256) → q < bs.length → (bs.flatten.drop (256 * q)).take 256 = bs.getD q []
  | [], _, _, h => by simp at h
  | b :: bs, 0, h, _ => by
    have hb := h b (List.mem_cons_self ..)
    rw [List.flatten_cons, Nat.mul_zero, List.drop_zero, ← hb, List.take_left']
    · simp
    · rfl
  | b :: bs, q + 1, h, hq => by
    have hb := h b (List.mem_cons_self ..)
    have ih := flat_drop (bs := bs) (q := q) (fun x hx => h x (List.mem_cons_of_mem _ hx)) (by simpa using hq)
    rw [List.flatten_cons, show 256 * (q + 1) = b.length + 256 * q by omega, ← List.drop_drop, List.drop_left', ih]
    · simp
    · rfl

/-- what a two-stage table says of c: ix the blocks' numbers, bl the blocks -/
def getS (ix bl : List Int) (c : Int) : Int :=
  if 0 ≤ c ∧ c ≤ maxS ∧ c / 256 < ix.length ∧ 0 ≤ ix.getD (c / 256).toNat 0 ∧ ix.getD (c / 256).toNat 0 < (bl.length / 256 : Nat) then bl.getD (256 * (ix.getD (c / 256).toNat 0).toNat + (c % 256).toNat) 0 else 0
def nats (l : List Nat) : List Int := l.map fun n : Nat => (n : Int)
theorem nats_len (l : List Nat) : (nats l).length = l.length := by simp [nats]
theorem nats_at (l : List Nat) (i : Nat) : (nats l).getD i 0 = (l.getD i 0 : Nat) := by
  simp only [nats, List.getD_eq_getElem?_getD, List.getElem?_map]
  cases l[i]? <;> rfl
theorem getS_pack (g : Nat → Int) {p : List Nat × List (List Int)} (h : PackOk g 4352 p) {c : Nat} (hc : (c : Int) ≤ maxS) : getS (nats p.1) p.2.flatten c = g c := by
  unfold maxS at hc
  have e1 : ((c : Int) / 256).toNat = c / 256 := by omega
  have e2 : ((c : Int) % 256).toNat = c % 256 := by omega
  have ha := h.at_ (c / 256) (by omega)
  unfold getS
  rw [e1, e2, nats_at, nats_len, h.len, flat_len h.each, if_pos ⟨by omega, by unfold maxS; omega, by omega, by omega, by omega⟩]
  rw [Int.toNat_natCast, flat_at h.each ha.1 (by omega), ha.2, blk_at _ _ _ (by omega)]
  congr 1
  omega
end Go.Proofs.YtidjjaginindoaaGreat

/-! Sg -/
namespace Go.Proofs.YtidjjaginindoaaGreat
open Go.RowKit

def noRg : Rg := ⟨0, 0, 0⟩
/-- The value v is a slice that holds the ranges l. -/
def Sg (w : World) (v : Value) (l : List Rg) : Prop :=
  ∃ a cap, v = .slice a l.length cap ∧ l.length ≤ cap ∧ cap ≤ maxLen ∧
    (cap = 0 ∨ ∃ b off, a = some ⟨b, off, none⟩ ∧ (0 < l.length → b < w.heap.size) ∧ ∀ i, i < l.length →
      w.cell? ⟨b, off + i * 3, none⟩ = some (.int .i64 (l.getD i noRg).f) ∧ w.cell? ⟨b, off + i * 3 + 1, none⟩ = some (.int .i64 (l.getD i noRg).t) ∧ w.cell? ⟨b, off + i * 3 + 2, none⟩ = some (.int .i64 (l.getD i noRg).v))
theorem Sg.below {w w' : World} {v : Value} {l : List Rg} (h : Sg w v l) (hb : Below w.heap.size w w') : Sg w' v l := by
  obtain ⟨a, cap, hv, hl, hm, h⟩ := h
  refine ⟨a, cap, hv, hl, hm, ?_⟩
  rcases h with h | ⟨b, off, ha, hbb, hc⟩
  · exact .inl h
  · refine .inr ⟨b, off, ha, fun h0 => Nat.lt_of_lt_of_le (hbb h0) hb.size, fun i hi => ?_⟩
    obtain ⟨h1, h2, h3⟩ := hc i hi
    have hlt := hbb (by omega)
    exact ⟨(hb.cell (p := ⟨b, off + i * 3, none⟩) hlt).trans h1, (hb.cell (p := ⟨b, off + i * 3 + 1, none⟩) hlt).trans h2, (hb.cell (p := ⟨b, off + i * 3 + 2, none⟩) hlt).trans h3⟩
theorem Sg.drewN {w : World} {v : Value} {l : List Rg} (h : Sg w v l) (n : Nat) : Sg (w.drewN n) v l := h
theorem Sg.form {w : World} {v : Value} {l : List Rg} (h : Sg w v l) : ∃ a c, v = .slice a l.length c := by
  obtain ⟨a, c, rfl, -, -, -⟩ := h
  exact ⟨a, c, rfl⟩
theorem Sg.len {w : World} {v : Value} {l : List Rg} (h : Sg w v l) : l.length ≤ 9223372036854775807 := by
  obtain ⟨a, cap, _, hl, hm, _⟩ := h
  unfold maxLen at hm
  omega
/-- told by its place: the first that has c -/
theorem lookS_drop : ∀ {l : List Rg} {k : Nat} {c : Int}, k ≤ l.length → (∀ i, i < k → ¬ ((l.getD i noRg).f ≤ c ∧ c ≤ (l.getD i noRg).t)) → lookS l c = lookS (l.drop k) c
  | _, 0, _, _, _ => rfl
  | [], k + 1, _, h, _ => by simp at h
  | r :: l, k + 1, c, h, ha => by
    have h0 := ha 0 (by omega)
    rw [lookS, if_neg (by simpa using h0), List.drop_succ_cons]
    exact lookS_drop (by simpa using h) fun i hi => by simpa using ha (i + 1) (by omega)
theorem lookS_hit {l : List Rg} {k : Nat} {c : Int} (h : k < l.length) (ha : ∀ i, i < k → ¬ ((l.getD i noRg).f ≤ c ∧ c ≤ (l.getD i noRg).t)) (hk : (l.getD k noRg).f ≤ c ∧ c ≤ (l.getD k noRg).t) : lookS l c = (l.getD k noRg).v := by
  rw [lookS_drop (by omega) ha, List.drop_eq_getElem_cons h, lookS]
  have e : l.getD k noRg = l[k] := by rw [List.getD_eq_getElem?_getD, List.getElem?_eq_getElem h]; rfl
  rw [e] at hk ⊢
  rw [if_pos hk]
theorem lookS_none {l : List Rg} {c : Int} (ha : ∀ i, i < l.length → ¬ ((l.getD i noRg).f ≤ c ∧ c ≤ (l.getD i noRg).t)) : lookS l c = 0 := by
  rw [lookS_drop (Nat.le_refl _) ha, List.drop_length]
  rfl
end Go.Proofs.YtidjjaginindoaaGreat

/-! Tabs6 -/
namespace Go.Proofs.YtidjjaginindoaaGreat
open Go.RowKit

def tabClasses : List Rg := [⟨768, 788, 230⟩, ⟨789, 789, 232⟩, ⟨790, 793, 220⟩, ⟨795, 795, 216⟩, ⟨796, 800, 220⟩, ⟨801, 802, 202⟩, ⟨803, 806, 220⟩, ⟨807, 808, 202⟩, ⟨809, 819, 220⟩, ⟨820, 824, 1⟩, ⟨825, 828, 220⟩, ⟨829, 836, 230⟩, ⟨837, 837, 240⟩, ⟨838, 838, 230⟩, ⟨839, 841, 220⟩, ⟨1456, 1456, 10⟩, ⟨1457, 1457, 11⟩, ⟨1460, 1460, 14⟩, ⟨1468, 1468, 21⟩, ⟨1473, 1473, 24⟩, ⟨1474, 1474, 25⟩, ⟨2364, 2364, 7⟩, ⟨2381, 2381, 9⟩, ⟨8400, 8401, 230⟩, ⟨12441, 12442, 8⟩, ⟨65056, 65059, 230⟩]
def tabAssigned : List Rg := [⟨0, 544, 1⟩, ⟨546, 563, 1⟩, ⟨592, 685, 1⟩, ⟨688, 750, 1⟩, ⟨768, 847, 1⟩, ⟨864, 879, 1⟩, ⟨884, 885, 1⟩, ⟨890, 890, 1⟩, ⟨894, 894, 1⟩, ⟨900, 906, 1⟩, ⟨908, 908, 1⟩, ⟨910, 929, 1⟩, ⟨931, 974, 1⟩, ⟨976, 1014, 1⟩, ⟨1024, 1158, 1⟩, ⟨1160, 1230, 1⟩, ⟨1425, 1441, 1⟩, ⟨1443, 1465, 1⟩, ⟨1467, 1476, 1⟩, ⟨1488, 1514, 1⟩, ⟨1757, 1757, 1⟩, ⟨1807, 1807, 1⟩, ⟨2305, 2307, 1⟩, ⟨2309, 2361, 1⟩, ⟨2364, 2381, 1⟩, ⟨2392, 2416, 1⟩, ⟨4352, 4441, 1⟩, ⟨4447, 4514, 1⟩, ⟨4520, 4601, 1⟩, ⟨5760, 5788, 1⟩, ⟨6144, 6158, 1⟩, ⟨7680, 7835, 1⟩, ⟨7840, 7929, 1⟩, ⟨8175, 8175, 1⟩, ⟨8192, 8274, 1⟩, ⟨8287, 8291, 1⟩, ⟨8298, 8305, 1⟩, ⟨8400, 8426, 1⟩, ⟨8448, 8506, 1⟩, ⟨8531, 8579, 1⟩, ⟨9312, 9470, 1⟩, ⟨12288, 12351, 1⟩, ⟨12353, 12438, 1⟩, ⟨12441, 12543, 1⟩, ⟨19968, 40869, 1⟩, ⟨44032, 55203, 1⟩, ⟨57344, 63743, 1⟩, ⟨64256, 64262, 1⟩, ⟨64285, 64310, 1⟩, ⟨65024, 65039, 1⟩, ⟨65056, 65059, 1⟩, ⟨65279, 65279, 1⟩, ⟨65281, 65470, 1⟩, ⟨65529, 65533, 1⟩, ⟨66304, 66334, 1⟩, ⟨119155, 119162, 1⟩, ⟨917505, 917505, 1⟩, ⟨917536, 917631, 1⟩, ⟨983040, 1048573, 1⟩, ⟨1048576, 1114109, 1⟩]
def tabNothing : List Rg := [⟨0, 8, 1⟩, ⟨14, 31, 1⟩, ⟨127, 132, 1⟩, ⟨134, 159, 1⟩, ⟨173, 173, 1⟩, ⟨847, 847, 1⟩, ⟨1757, 1757, 1⟩, ⟨1807, 1807, 1⟩, ⟨6150, 6150, 1⟩, ⟨6155, 6158, 1⟩, ⟨8203, 8207, 1⟩, ⟨8234, 8238, 1⟩, ⟨8288, 8291, 1⟩, ⟨8298, 8303, 1⟩, ⟨65024, 65039, 1⟩, ⟨65279, 65279, 1⟩, ⟨65529, 65532, 1⟩, ⟨119155, 119162, 1⟩, ⟨917505, 917505, 1⟩, ⟨917536, 917631, 1⟩]
def tabSpaces : List Rg := [⟨9, 13, 1⟩, ⟨133, 133, 1⟩, ⟨160, 160, 1⟩, ⟨5760, 5760, 1⟩, ⟨8192, 8202, 1⟩, ⟨8232, 8233, 1⟩, ⟨8239, 8239, 1⟩, ⟨8287, 8287, 1⟩, ⟨12288, 12288, 1⟩]
def tabProhibited : List Rg := [⟨832, 833, 1⟩, ⟨57344, 63743, 1⟩, ⟨65533, 65533, 1⟩, ⟨983040, 1048573, 1⟩, ⟨1048576, 1114109, 1⟩]
end Go.Proofs.YtidjjaginindoaaGreat

/-! KeepG -/
namespace Go.Proofs.YtidjjaginindoaaGreat
open Go.RowKit

def eqL (xs ys : List Int) : Bool := decide (xs = ys)
theorem eqL_iff {xs ys : List Int} : eqL xs ys = true ↔ xs = ys := by simp [eqL]
theorem eqL_self (xs : List Int) : eqL xs xs = true := eqL_iff.2 rfl

theorem ext_getD {xs ys : List Int} (hl : xs.length = ys.length) (h : ∀ i, i < xs.length → xs.getD i 0 = ys.getD i 0) : xs = ys := by
  apply List.ext_getElem hl
  intro i h1 h2
  have := h i h1
  simpa [List.getD_eq_getElem?_getD, List.getElem?_eq_getElem h1, List.getElem?_eq_getElem h2] using this

theorem Sl.form {k : IntKind} {w : World} {v : Value} {xs : List Int} (h : Sl k w v xs) : ∃ a c, v = .slice a xs.length c := by
  obtain ⟨a, c, rfl, -, -, -⟩ := h
  exact ⟨a, c, rfl⟩

theorem ret_bool {a b : Bool} (h : a = b) : Ending.returned (.bool a) = .returned (.bool b) := by rw [h]

theorem quiet_at {P : Program} {f : FuncId} {args : Array Value} {w : World} {n m : Nat} {v : Value}
    (h : Calls P f args (w.drewN (n + m)) fun e w' => e = .returned v ∧ ∃ k, w' = (w.drewN (n + m)).drewN k) : Calls P f args (w.drewN (n + m)) fun e w'' => e = .returned v ∧ ∃ k, w'' = w.drewN (n + k) :=
  h.mono fun _ _ ⟨he, k, hm⟩ => ⟨he, m + k, by rw [hm, World.drewN_drewN, Nat.add_assoc]⟩

theorem quiet_same {P : Program} {f : FuncId} {args : Array Value} {w : World} {n m : Nat} {v : Value}
    (h : Calls P f args (w.drewN (n + m)) fun e w' => e = .returned v ∧ w.drewN (n + m) = w') : Calls P f args (w.drewN (n + m)) fun e w'' => e = .returned v ∧ ∃ k, w'' = w.drewN (n + k) :=
  h.mono fun _ _ ⟨he, hm⟩ => ⟨he, m, hm.symm⟩

theorem quiet_same0 {P : Program} {f : FuncId} {args : Array Value} {w : World} {n : Nat} {v : Value}
    (h : Calls P f args (w.drewN n) fun e w' => e = .returned v ∧ w.drewN n = w') : Calls P f args (w.drewN n) fun e w'' => e = .returned v ∧ ∃ k, w'' = w.drewN k :=
  h.mono fun _ _ ⟨he, hm⟩ => ⟨he, n, hm.symm⟩
theorem quiet_at0 {P : Program} {f : FuncId} {args : Array Value} {w : World} {n : Nat} {v : Value}
    (h : Calls P f args (w.drewN n) fun e w' => e = .returned v ∧ ∃ k, w' = (w.drewN n).drewN k) : Calls P f args (w.drewN n) fun e w'' => e = .returned v ∧ ∃ k, w'' = w.drewN k :=
  h.mono fun _ _ ⟨he, k, hm⟩ => ⟨he, n + k, by rw [hm, World.drewN_drewN]⟩

end Go.Proofs.YtidjjaginindoaaGreat

/-! ApiRg -/
namespace Go.Proofs.YtidjjaginindoaaGreat
open Go.RowKit
open Go.Great (wp_anyFrame)

/-- a block laid as the cells of ranges reads as these ranges -/
theorem sg_cells {w : World} {l : List Rg} {e : TypeId} {n k : Nat} {cs : Array Value} (hn : n = w.heap.size) (hk : k = l.length) (hc : cs.toList = l.flatMap fun r => [.int .i64 r.f, .int .i64 r.t, .int .i64 r.v]) (hm : l.length ≤ 1000000) :
    Sg (w.alloc (.cells cs e)) (.slice (some ⟨n, 0, none⟩) k k) l := by
  subst hn hk
  refine ⟨_, l.length, rfl, Nat.le_refl _, by unfold maxLen; omega, .inr ⟨w.heap.size, 0, rfl, fun _ => by simp, fun i hi => ?_⟩⟩
  have key : ∀ (l : List Rg) (i : Nat), i < l.length → ∀ j, j < 3 → (l.flatMap fun r : Rg => [Value.int .i64 r.f, .int .i64 r.t, .int .i64 r.v])[i * 3 + j]? = [Value.int .i64 (l.getD i noRg).f, .int .i64 (l.getD i noRg).t, .int .i64 (l.getD i noRg).v][j]? := fun l => by
    induction l with
    | nil => intro i hi; simp at hi
    | cons r l ih =>
      intro i hi j hj
      match i with
      | 0 =>
        match j, hj with
        | 0, _ => rfl
        | 1, _ => rfl
        | 2, _ => rfl
      | i + 1 =>
        have := ih i (by simpa using hi) j hj
        rw [List.flatMap_cons, show (i + 1) * 3 + j = i * 3 + j + 1 + 1 + 1 by omega]
        simpa using this
  have hat : ∀ j, (w.alloc (.cells cs e)).cell? ⟨w.heap.size, j, none⟩ = cs.toList[j]? := fun j => by
    rw [cell_of_row _ w.heap.size j cs e (0, 0) (heap_alloc_new w _)]
    simp
  have k0 := key l i hi 0 (by omega)
  have k1 := key l i hi 1 (by omega)
  have k2 := key l i hi 2 (by omega)
  simp only [Nat.zero_add]
  refine ⟨?_, ?_, ?_⟩
  · rw [hat, hc]; exact k0
  · rw [hat, hc]; exact k1
  · rw [hat, hc]; exact k2

/-- a table's numbers as the library's law on such literals takes them -/
def tri (l : List Rg) : List Lib.Rg := l.map fun r => (r.f.toNat, r.t.toNat, r.v.toNat)

theorem tri_cells : ∀ {l : List Rg}, (l.all fun r => decide (0 ≤ r.f) && (decide (0 ≤ r.t) && decide (0 ≤ r.v))) = true → (Lib.rgCells .i64 (tri l).toArray).toList = l.flatMap fun r => [.int .i64 r.f, .int .i64 r.t, .int .i64 r.v]
  | [], _ => rfl
  | r :: l, h => by
    simp only [List.all_cons, Bool.and_eq_true, decide_eq_true_eq] at h
    have ih := tri_cells (l := l) h.2
    simp only [Lib.rgCells, tri, List.map_cons, List.flatMap_cons, Lib.cells3, Int.toNat_of_nonneg h.1.1, Int.toNat_of_nonneg h.1.2.1, Int.toNat_of_nonneg h.1.2.2] at ih ⊢
    rw [ih]

theorem apiClasses (w : World) : Calls Tryz.prog 59 #[] w fun e w' => ∃ v, e = .returned v ∧ Sg w' v tabClasses ∧ Below w.heap.size w w' := by
  refine calls_of_wp Tryz.func59 rfl ?_
  refine wp_anyFrame 28 (by as_aux_lemma => kernel_rfl) rfl fun a0 hs0 hd0 => ?_
  apply wp_seq_k; intro K0 hK0
  apply wp_region_lit
  refine Go.Great.wpList_readTo rfl (some 0) rfl (.slice none 0 0) rfl ?_
  apply wpList_nil
  refine hK0 _ _ ?_
  clear hK0 K0
  refine wp_anyFrame 28 (by simp only [Act.size_put, hs0]) (by simp only [Act.defers_put', hd0]) fun a1 hs1 hd1 => ?_
  apply wp_seq_k; intro K1 hK1
  apply wp_region_lit
  refine Go.Great.wpList_splitAt 26 (Go.Great.rgOps 41 "tables.go:80" .i64 1 (tri tabClasses)) (by as_aux_lemma => kernel_rfl) ?_
  refine Go.Great.wpList_rgs 41 "tables.go:80" .i64 (fun _ _ _ => by as_aux_lemma => kernel_rfl) _ 1 _ (by rw [hs1]; exact Nat.le_of_ble_eq_true (by as_aux_lemma => kernel_rfl)) fun b hb hbd hev _ => ?_
  refine Go.Great.wpList_buildRgs rfl 38 41 _ .i64 (tri tabClasses).toArray rfl 1 w.heap.size rfl (some 27) rfl (by as_aux_lemma => kernel_rfl) (by as_aux_lemma => kernel_rfl) (by as_aux_lemma => kernel_rfl) (by decide) (by decide) (by as_aux_lemma => kernel_rfl) hev ?_
  refine Go.Great.wpList_readTo rfl (some 0) rfl (.slice (some ⟨w.heap.size, 0, none⟩) 26 26) ?_ ?_
  · have := Act.eval_put_same b 27 (.slice (some ⟨w.heap.size, 0, none⟩) 26 26) (by rw [hb, hs1]; omega)
    exact congrArg (fun v => Result.ok (Next.value v) _) this
  apply wpList_nil
  refine hK1 _ _ ?_
  refine wp_ret (bodyPost_ret (results_tmp rfl _ _ _) (by simp only [Act.defers_put', hbd, hd1]) ⟨_, rfl, ?_, by (repeat (first | exact Below.refl _ _ | exact below_drewN _ | refine Below.drew ?_ | refine Below.alloc ?_ (by simp) _ | refine Below.setCell ?_ (by simp) _ | refine below_drewN' ?_ _))⟩)
  have := Act.eval_put_same (b.put (some 27) (.slice (some ⟨w.heap.size, 0, none⟩) 26 26)) 0 (.slice (some ⟨w.heap.size, 0, none⟩) 26 26) (by rw [Act.size_put, hb, hs1]; omega)
  rw [show ∀ a : Act, a.tmps.getD 0 undef = a.eval (.tmp 0) from fun _ => rfl]
  exact (congrArg (fun v => Sg _ v tabClasses) this).mpr (sg_cells rfl (by as_aux_lemma => kernel_rfl) (tri_cells (by decide)) (by decide))

theorem apiAssigned (w : World) : Calls Tryz.prog 72 #[] w fun e w' => ∃ v, e = .returned v ∧ Sg w' v tabAssigned ∧ Below w.heap.size w w' := by
  refine calls_of_wp Tryz.func72 rfl ?_
  refine wp_anyFrame 62 (by as_aux_lemma => kernel_rfl) rfl fun a0 hs0 hd0 => ?_
  apply wp_seq_k; intro K0 hK0
  apply wp_region_lit
  refine Go.Great.wpList_readTo rfl (some 0) rfl (.slice none 0 0) rfl ?_
  apply wpList_nil
  refine hK0 _ _ ?_
  clear hK0 K0
  refine wp_anyFrame 62 (by simp only [Act.size_put, hs0]) (by simp only [Act.defers_put', hd0]) fun a1 hs1 hd1 => ?_
  apply wp_seq_k; intro K1 hK1
  apply wp_region_lit
  refine Go.Great.wpList_splitAt 60 (Go.Great.rgOps 41 "tables.go:85" .i64 1 (tri tabAssigned)) (by as_aux_lemma => kernel_rfl) ?_
  refine Go.Great.wpList_rgs 41 "tables.go:85" .i64 (fun _ _ _ => by as_aux_lemma => kernel_rfl) _ 1 _ (by rw [hs1]; exact Nat.le_of_ble_eq_true (by as_aux_lemma => kernel_rfl)) fun b hb hbd hev _ => ?_
  refine Go.Great.wpList_buildRgs rfl 38 41 _ .i64 (tri tabAssigned).toArray rfl 1 w.heap.size rfl (some 61) rfl (by as_aux_lemma => kernel_rfl) (by as_aux_lemma => kernel_rfl) (by as_aux_lemma => kernel_rfl) (by decide) (by decide) (by as_aux_lemma => kernel_rfl) hev ?_
  refine Go.Great.wpList_readTo rfl (some 0) rfl (.slice (some ⟨w.heap.size, 0, none⟩) 60 60) ?_ ?_
  · have := Act.eval_put_same b 61 (.slice (some ⟨w.heap.size, 0, none⟩) 60 60) (by rw [hb, hs1]; omega)
    exact congrArg (fun v => Result.ok (Next.value v) _) this
  apply wpList_nil
  refine hK1 _ _ ?_
  refine wp_ret (bodyPost_ret (results_tmp rfl _ _ _) (by simp only [Act.defers_put', hbd, hd1]) ⟨_, rfl, ?_, by (repeat (first | exact Below.refl _ _ | exact below_drewN _ | refine Below.drew ?_ | refine Below.alloc ?_ (by simp) _ | refine Below.setCell ?_ (by simp) _ | refine below_drewN' ?_ _))⟩)
  have := Act.eval_put_same (b.put (some 61) (.slice (some ⟨w.heap.size, 0, none⟩) 60 60)) 0 (.slice (some ⟨w.heap.size, 0, none⟩) 60 60) (by rw [Act.size_put, hb, hs1]; omega)
  rw [show ∀ a : Act, a.tmps.getD 0 undef = a.eval (.tmp 0) from fun _ => rfl]
  exact (congrArg (fun v => Sg _ v tabAssigned) this).mpr (sg_cells rfl (by as_aux_lemma => kernel_rfl) (tri_cells (by decide)) (by decide))

theorem apiNothing (w : World) : Calls Tryz.prog 23 #[] w fun e w' => ∃ v, e = .returned v ∧ Sg w' v tabNothing ∧ Below w.heap.size w w' := by
  refine calls_of_wp Tryz.func23 rfl ?_
  refine wp_anyFrame 22 (by as_aux_lemma => kernel_rfl) rfl fun a0 hs0 hd0 => ?_
  apply wp_seq_k; intro K0 hK0
  apply wp_region_lit
  refine Go.Great.wpList_readTo rfl (some 0) rfl (.slice none 0 0) rfl ?_
  apply wpList_nil
  refine hK0 _ _ ?_
  clear hK0 K0
  refine wp_anyFrame 22 (by simp only [Act.size_put, hs0]) (by simp only [Act.defers_put', hd0]) fun a1 hs1 hd1 => ?_
  apply wp_seq_k; intro K1 hK1
  apply wp_region_lit
  refine Go.Great.wpList_splitAt 20 (Go.Great.rgOps 41 "tables.go:90" .i64 1 (tri tabNothing)) (by as_aux_lemma => kernel_rfl) ?_
  refine Go.Great.wpList_rgs 41 "tables.go:90" .i64 (fun _ _ _ => by as_aux_lemma => kernel_rfl) _ 1 _ (by rw [hs1]; exact Nat.le_of_ble_eq_true (by as_aux_lemma => kernel_rfl)) fun b hb hbd hev _ => ?_
  refine Go.Great.wpList_buildRgs rfl 38 41 _ .i64 (tri tabNothing).toArray rfl 1 w.heap.size rfl (some 21) rfl (by as_aux_lemma => kernel_rfl) (by as_aux_lemma => kernel_rfl) (by as_aux_lemma => kernel_rfl) (by decide) (by decide) (by as_aux_lemma => kernel_rfl) hev ?_
  refine Go.Great.wpList_readTo rfl (some 0) rfl (.slice (some ⟨w.heap.size, 0, none⟩) 20 20) ?_ ?_
  · have := Act.eval_put_same b 21 (.slice (some ⟨w.heap.size, 0, none⟩) 20 20) (by rw [hb, hs1]; omega)
    exact congrArg (fun v => Result.ok (Next.value v) _) this
  apply wpList_nil
  refine hK1 _ _ ?_
  refine wp_ret (bodyPost_ret (results_tmp rfl _ _ _) (by simp only [Act.defers_put', hbd, hd1]) ⟨_, rfl, ?_, by (repeat (first | exact Below.refl _ _ | exact below_drewN _ | refine Below.drew ?_ | refine Below.alloc ?_ (by simp) _ | refine Below.setCell ?_ (by simp) _ | refine below_drewN' ?_ _))⟩)
  have := Act.eval_put_same (b.put (some 21) (.slice (some ⟨w.heap.size, 0, none⟩) 20 20)) 0 (.slice (some ⟨w.heap.size, 0, none⟩) 20 20) (by rw [Act.size_put, hb, hs1]; omega)
  rw [show ∀ a : Act, a.tmps.getD 0 undef = a.eval (.tmp 0) from fun _ => rfl]
  exact (congrArg (fun v => Sg _ v tabNothing) this).mpr (sg_cells rfl (by as_aux_lemma => kernel_rfl) (tri_cells (by decide)) (by decide))

theorem apiSpaces (w : World) : Calls Tryz.prog 24 #[] w fun e w' => ∃ v, e = .returned v ∧ Sg w' v tabSpaces ∧ Below w.heap.size w w' := by
  refine calls_of_wp Tryz.func24 rfl ?_
  refine wp_anyFrame 11 (by as_aux_lemma => kernel_rfl) rfl fun a0 hs0 hd0 => ?_
  apply wp_seq_k; intro K0 hK0
  apply wp_region_lit
  refine Go.Great.wpList_readTo rfl (some 0) rfl (.slice none 0 0) rfl ?_
  apply wpList_nil
  refine hK0 _ _ ?_
  clear hK0 K0
  refine wp_anyFrame 11 (by simp only [Act.size_put, hs0]) (by simp only [Act.defers_put', hd0]) fun a1 hs1 hd1 => ?_
  apply wp_seq_k; intro K1 hK1
  apply wp_region_lit
  refine Go.Great.wpList_splitAt 9 (Go.Great.rgOps 41 "tables.go:95" .i64 1 (tri tabSpaces)) (by as_aux_lemma => kernel_rfl) ?_
  refine Go.Great.wpList_rgs 41 "tables.go:95" .i64 (fun _ _ _ => by as_aux_lemma => kernel_rfl) _ 1 _ (by rw [hs1]; exact Nat.le_of_ble_eq_true (by as_aux_lemma => kernel_rfl)) fun b hb hbd hev _ => ?_
  refine Go.Great.wpList_buildRgs rfl 38 41 _ .i64 (tri tabSpaces).toArray rfl 1 w.heap.size rfl (some 10) rfl (by as_aux_lemma => kernel_rfl) (by as_aux_lemma => kernel_rfl) (by as_aux_lemma => kernel_rfl) (by decide) (by decide) (by as_aux_lemma => kernel_rfl) hev ?_
  refine Go.Great.wpList_readTo rfl (some 0) rfl (.slice (some ⟨w.heap.size, 0, none⟩) 9 9) ?_ ?_
  · have := Act.eval_put_same b 10 (.slice (some ⟨w.heap.size, 0, none⟩) 9 9) (by rw [hb, hs1]; omega)
    exact congrArg (fun v => Result.ok (Next.value v) _) this
  apply wpList_nil
  refine hK1 _ _ ?_
  refine wp_ret (bodyPost_ret (results_tmp rfl _ _ _) (by simp only [Act.defers_put', hbd, hd1]) ⟨_, rfl, ?_, by (repeat (first | exact Below.refl _ _ | exact below_drewN _ | refine Below.drew ?_ | refine Below.alloc ?_ (by simp) _ | refine Below.setCell ?_ (by simp) _ | refine below_drewN' ?_ _))⟩)
  have := Act.eval_put_same (b.put (some 10) (.slice (some ⟨w.heap.size, 0, none⟩) 9 9)) 0 (.slice (some ⟨w.heap.size, 0, none⟩) 9 9) (by rw [Act.size_put, hb, hs1]; omega)
  rw [show ∀ a : Act, a.tmps.getD 0 undef = a.eval (.tmp 0) from fun _ => rfl]
  exact (congrArg (fun v => Sg _ v tabSpaces) this).mpr (sg_cells rfl (by as_aux_lemma => kernel_rfl) (tri_cells (by decide)) (by decide))

theorem apiProhibited (w : World) : Calls Tryz.prog 25 #[] w fun e w' => ∃ v, e = .returned v ∧ Sg w' v tabProhibited ∧ Below w.heap.size w w' := by
  refine calls_of_wp Tryz.func25 rfl ?_
  refine wp_anyFrame 7 (by as_aux_lemma => kernel_rfl) rfl fun a0 hs0 hd0 => ?_
  apply wp_seq_k; intro K0 hK0
  apply wp_region_lit
  refine Go.Great.wpList_readTo rfl (some 0) rfl (.slice none 0 0) rfl ?_
  apply wpList_nil
  refine hK0 _ _ ?_
  clear hK0 K0
  refine wp_anyFrame 7 (by simp only [Act.size_put, hs0]) (by simp only [Act.defers_put', hd0]) fun a1 hs1 hd1 => ?_
  apply wp_seq_k; intro K1 hK1
  apply wp_region_lit
  refine Go.Great.wpList_splitAt 5 (Go.Great.rgOps 41 "tables.go:100" .i64 1 (tri tabProhibited)) (by as_aux_lemma => kernel_rfl) ?_
  refine Go.Great.wpList_rgs 41 "tables.go:100" .i64 (fun _ _ _ => by as_aux_lemma => kernel_rfl) _ 1 _ (by rw [hs1]; exact Nat.le_of_ble_eq_true (by as_aux_lemma => kernel_rfl)) fun b hb hbd hev _ => ?_
  refine Go.Great.wpList_buildRgs rfl 38 41 _ .i64 (tri tabProhibited).toArray rfl 1 w.heap.size rfl (some 6) rfl (by as_aux_lemma => kernel_rfl) (by as_aux_lemma => kernel_rfl) (by as_aux_lemma => kernel_rfl) (by decide) (by decide) (by as_aux_lemma => kernel_rfl) hev ?_
  refine Go.Great.wpList_readTo rfl (some 0) rfl (.slice (some ⟨w.heap.size, 0, none⟩) 5 5) ?_ ?_
  · have := Act.eval_put_same b 6 (.slice (some ⟨w.heap.size, 0, none⟩) 5 5) (by rw [hb, hs1]; omega)
    exact congrArg (fun v => Result.ok (Next.value v) _) this
  apply wpList_nil
  refine hK1 _ _ ?_
  refine wp_ret (bodyPost_ret (results_tmp rfl _ _ _) (by simp only [Act.defers_put', hbd, hd1]) ⟨_, rfl, ?_, by (repeat (first | exact Below.refl _ _ | exact below_drewN _ | refine Below.drew ?_ | refine Below.alloc ?_ (by simp) _ | refine Below.setCell ?_ (by simp) _ | refine below_drewN' ?_ _))⟩)
  have := Act.eval_put_same (b.put (some 6) (.slice (some ⟨w.heap.size, 0, none⟩) 5 5)) 0 (.slice (some ⟨w.heap.size, 0, none⟩) 5 5) (by rw [Act.size_put, hb, hs1]; omega)
  rw [show ∀ a : Act, a.tmps.getD 0 undef = a.eval (.tmp 0) from fun _ => rfl]
  exact (congrArg (fun v => Sg _ v tabProhibited) this).mpr (sg_cells rfl (by as_aux_lemma => kernel_rfl) (tri_cells (by decide)) (by decide))
end Go.Proofs.YtidjjaginindoaaGreat

/-! RefRng1 -/
namespace Go.Proofs.YtidjjaginindoaaGreat
open Go.RowKit

theorem ret_i64' {a b : Int} (h : a = b) : Ending.returned (.int .i64 a) = .returned (.int .i64 b) := by rw [h]

theorem refLook (v : Value) (l : List Rg) (c : Int) (w : World) (h : Sg w v l) :
    Calls Tryz.prog 75 #[v, .int .i64 c] w fun e w' => e = .returned (.int .i64 (lookS l c)) ∧ w = w' := by
  have ml := h.len
  obtain ⟨a1, cap1, rfl, q1, -, h1⟩ := h
  obtain ⟨n, hn⟩ : ∃ n, n = l.length := ⟨_, rfl⟩
  have hH : ∀ k, k < n → (∀ i, i < k → ¬ ((l.getD i noRg).f ≤ c ∧ c ≤ (l.getD i noRg).t)) → ((l.getD k noRg).f ≤ c ∧ c ≤ (l.getD k noRg).t) → lookS l c = (l.getD k noRg).v := fun k hk ha hh => lookS_hit (by omega) ha hh
  have hN : (∀ i, i < n → ¬ ((l.getD i noRg).f ≤ c ∧ c ≤ (l.getD i noRg).t)) → lookS l c = 0 := fun ha => lookS_none (by rw [← hn]; exact ha)
  have HH := hid hH
  have HN := hid hN
  have H1 := hid h1
  rw [← hn] at ml q1 H1 ⊢
  clear hH hN h1 hn
  go_enter Tryz.func75, Tryz.ntmps75
  go_wp2
  go_loopw [5] (fun iv wr => ∃ k : Nat, k ≤ n ∧ iv = .int .i64 k ∧ w = wr ∧ Hid (∀ i, i < k → ¬ ((l.getD i noRg).f ≤ c ∧ c ≤ (l.getD i noRg).t))) (fun iv _ => n - (intOf iv).toNat)
  case atStart => exact ⟨0, by omega, rfl, rfl, fun i hi => absurd hi (by omega)⟩
  case round =>
    obtain ⟨k, hk, rfl, rfl, hall⟩ := hrel
    by_cases hlt : k < n
    · rcases H1.out with hc | ⟨b1, o1, rfl, -, c1⟩
      · omega
      obtain ⟨d1, d2, d3⟩ := c1 k hlt
      have hh := hid (HH.out k hlt hall.out)
      have hnx : ¬ ((l.getD k noRg).f ≤ c ∧ c ≤ (l.getD k noRg).t) → ∀ i, i < k + 1 → ¬ ((l.getD i noRg).f ≤ c ∧ c ≤ (l.getD i noRg).t) := fun he i hi => by
        rcases Nat.lt_or_ge i k with h | h
        · exact hall.out i h
        · obtain rfl : i = k := by omega
          exact he
      have HNX := hid hnx
      clear hnx c1
      generalize l.getD k noRg = r at d1 d2 d3 hh HNX
      obtain ⟨rf, rt, rv⟩ := r
      simp only at d1 d2 d3 hh HNX
      by_cases hf : rf ≤ c
      · by_cases ht : c ≤ rt
        · have hr := hid (hh.out ⟨hf, ht⟩)
          go_wp2
          go_ret
          exact ⟨ret_i64' hr.out.symm, rfl⟩
        · have hr := hid (HNX.out (fun h => ht h.2))
          go_wp2
          go_roundw
          case rel => exact ⟨k + 1, by omega, by go_num, by trivial, hr.out⟩
          case measure => simp [intOf]; omega
      · have hr := hid (HNX.out (fun h => hf h.1))
        go_wp2
        go_roundw
        case rel => exact ⟨k + 1, by omega, by go_num, by trivial, hr.out⟩
        case measure => simp [intOf]; omega
    · obtain rfl : k = n := by omega
      have hr := hid (HN.out hall.out)
      go_wp2
      go_ret
      exact ⟨ret_i64' hr.out.symm, rfl⟩
end Go.Proofs.YtidjjaginindoaaGreat

/-! Num -/
namespace Go.Proofs.YtidjjaginindoaaGreat

def inI (c : Int) : Bool := decide (-9223372036854775808 ≤ c ∧ c ≤ 9223372036854775807)
theorem inI_of {c : Int} (h : -9223372036854775808 ≤ c ∧ c ≤ 9223372036854775807) : inI c = true := decide_eq_true h
/-- is it a scalar? -/
def scalarB (c : Int) : Bool := decide (0 ≤ c ∧ c ≤ 1114111 ∧ (c < 55296 ∨ 57343 < c))
theorem scalar_t {c : Int} (h : 0 ≤ c ∧ c ≤ 1114111 ∧ (c < 55296 ∨ 57343 < c)) : scalarB c = true := decide_eq_true h
theorem scalar_f {c : Int} (h : ¬ (0 ≤ c ∧ c ≤ 1114111 ∧ (c < 55296 ∨ 57343 < c))) : scalarB c = false := decide_eq_false h
theorem scalar_inI {c : Int} (h : scalarB c = true) : inI c = true := by
  unfold scalarB at h
  unfold inI
  rw [decide_eq_true_iff]
  have h := of_decide_eq_true h
  omega
def inB (c lo hi : Int) : Bool := decide (lo ≤ c ∧ c ≤ hi)
end Go.Proofs.YtidjjaginindoaaGreat

/-! Keep -/
namespace Go.Proofs.YtidjjaginindoaaGreat
open Go.RowKit

theorem Tryz.infoU8 : (Tryz.prog.info? 5).map (fun i => (i.zero, i.size, i.bytes)) = some (some (.int .u8 0), 1, 1) := by kernel_rfl

end Go.Proofs.YtidjjaginindoaaGreat
