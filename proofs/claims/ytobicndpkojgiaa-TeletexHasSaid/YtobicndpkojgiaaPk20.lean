/- Several texts in one: Tk, Keep, OwnT, Twin. -/
import Derived.Test.YtobicndpkojgiaaPk1
import Derived.BigQuiet
import Derived.Laws.StructEq
import Derived.Deep.AppendLies
/-! Tk -/
namespace Go.Proofs.Ytobicndpkojgiaa
open Go.RowKit

/-- The value v is a slice that holds the tokens l. -/
def Tk (w : World) (v : Value) (l : List (Int × Int)) : Prop :=
  ∃ a cap, v = .slice a l.length cap ∧ l.length ≤ cap ∧ cap ≤ maxLen ∧
    (cap = 0 ∨ ∃ b off, a = some ⟨b, off, none⟩ ∧ (0 < l.length → b < w.heap.size) ∧ ∀ i, i < l.length →
      w.cell? ⟨b, off + i * 2, none⟩ = some (.int .i64 (l.getD i (0, 0)).1) ∧ w.cell? ⟨b, off + i * 2 + 1, none⟩ = some (.int .i64 (l.getD i (0, 0)).2))
theorem Tk.below {w w' : World} {v : Value} {l : List (Int × Int)} (h : Tk w v l) (hb : Below w.heap.size w w') : Tk w' v l := by
  obtain ⟨a, cap, hv, hl, hm, h⟩ := h
  refine ⟨a, cap, hv, hl, hm, ?_⟩
  rcases h with h | ⟨b, off, ha, hbb, hc⟩
  · exact .inl h
  · refine .inr ⟨b, off, ha, fun h0 => Nat.lt_of_lt_of_le (hbb h0) hb.size, fun i hi => ?_⟩
    obtain ⟨h1, h2⟩ := hc i hi
    have hlt := hbb (by omega)
    exact ⟨(hb.cell (p := ⟨b, off + i * 2, none⟩) hlt).trans h1, (hb.cell (p := ⟨b, off + i * 2 + 1, none⟩) hlt).trans h2⟩
theorem Tk.form {w : World} {v : Value} {l : List (Int × Int)} (h : Tk w v l) : ∃ a c, v = .slice a l.length c := by
  obtain ⟨a, c, rfl, -, -, -⟩ := h
  exact ⟨a, c, rfl⟩
theorem Tk.len {w : World} {v : Value} {l : List (Int × Int)} (h : Tk w v l) : l.length ≤ 9223372036854775807 := by
  obtain ⟨a, cap, _, hl, hm, _⟩ := h
  unfold maxLen at hm
  omega
theorem Tk.one {w : World} {v : Value} {t : Int × Int} (h : Tk w v [t]) : ∃ b o c, v = .slice (some ⟨b, o, none⟩) 1 c ∧ w.cell? ⟨b, o, none⟩ = some (.int .i64 t.1) ∧ w.cell? ⟨b, o + 1, none⟩ = some (.int .i64 t.2) := by
  obtain ⟨a, c, rfl, hl, -, h⟩ := h
  rcases h with rfl | ⟨b, o, rfl, -, h⟩
  · simp at hl
  · have := h 0 (by simp)
    exact ⟨b, o, c, rfl, by simpa using this⟩
def eqT (l m : List (Int × Int)) : Bool := decide (l = m)
theorem eqT_iff {l m : List (Int × Int)} : eqT l m = true ↔ l = m := by simp [eqT]
theorem eqT_self (l : List (Int × Int)) : eqT l l = true := eqT_iff.2 rfl
theorem ext_tk {l m : List (Int × Int)} (hl : l.length = m.length) (h : ∀ i, i < l.length → l.getD i (0, 0) = m.getD i (0, 0)) : l = m := by
  apply List.ext_getElem hl
  intro i h1 h2
  have := h i h1
  simpa [List.getD_eq_getElem?_getD, List.getElem?_eq_getElem h1, List.getElem?_eq_getElem h2] using this

theorem neq_tk (a b d e : Int) (w : World) : (binOp .neq 88 (.agg #[.int .i64 a, .int .i64 b]) (.agg #[.int .i64 d, .int .i64 e])).run Try.prog w = .ok (.bool (!decide (((a, b) : Int × Int) = (d, e)))) w := by
  have u3 := Try.underlying3
  have a3 := Try.isAgg3
  have z3 := Try.sizeOf3
  have hS : Try.prog.underlying 88 = some (.struct (Try.prog.fieldsOf 88)) := by kernel_rfl
  have hp : Try.prog.stoodInHeld 88 = false := by kernel_rfl
  rw [run_neq_struct, show (10000 : Nat) = 9999 + 1 from rfl, run_equalIn_agg w 9999 88 _ _ hS hp]
  simp only [Program.fieldsOf, Try.underlying88]
  go_simp
  by_cases h1 : a = d <;> by_cases h2 : b = e <;> simp [h1, h2]

end Go.Proofs.Ytobicndpkojgiaa

/-! Keep -/
namespace Go.Proofs.Ytobicndpkojgiaa
open Go.RowKit

theorem keepBytes (v1 v2 : Value) (xs ys : List Int) (w : World) (h1 : Sl .u8 w v1 xs) (h2 : Sl .u8 w v2 ys) :
    Calls Try.prog 15 #[v1, v2] w fun e w' => e = .returned (.bool (eqL xs ys)) ∧ ∃ n, w' = w.drewN n := by
  have m1 := h1.len
  have m2 := h2.len
  obtain ⟨a1, cap1, rfl, q1, -, h1⟩ := h1
  obtain ⟨a2, cap2, rfl, q2, -, h2⟩ := h2
  by_cases hne : xs.length = ys.length
  · rcases Nat.eq_zero_or_pos xs.length with h0 | h0
    · have hx : xs = [] := List.eq_nil_of_length_eq_zero h0
      have hy : ys = [] := List.eq_nil_of_length_eq_zero (by omega)
      subst hx hy
      clear h1 h2 hne h0
      simp only [List.length_nil]
      go_enter Try.func15, Try.ntmps15
      go_wp2
      go_loopw [5] (fun i wr => i = .int .i64 0 ∧ wr = w) (fun i _ => 0)
      case atStart => exact ⟨rfl, rfl⟩
      case round =>
        obtain ⟨rfl, rfl⟩ := hrel
        go_wp2
        go_ret
        exact ⟨rfl, 0, rfl⟩
    · rcases h1 with hc | ⟨b1, o1, rfl, hb1, c1⟩
      · omega
      rcases h2 with hc | ⟨b2, o2, rfl, hb2, c2⟩
      · omega
      rw [← hne] at c2 ⊢
      have HN := hid hne
      obtain ⟨len, hlen⟩ : ∃ len, len = xs.length := ⟨_, rfl⟩
      clear q1 q2
      rw [← hlen] at c1 c2 m1 h0 ⊢
      have HL := hid hlen
      clear hlen m2 hne
      have C1 := hid c1
      have C2 := hid c2
      clear c1 c2 hb1 hb2
      go_enter Try.func15, Try.ntmps15
      go_wp2
      go_loopw [5] (fun i wr => ∃ k n : Nat, k ≤ len ∧ i = .int .i64 k ∧ wr = w.drewN n ∧ Hid (∀ i, i < k → xs.getD i 0 = ys.getD i 0)) (fun i _ => len - (intOf i).toNat)
      case atStart => exact ⟨0, 0, by omega, rfl, rfl, fun i hi => absurd hi (by omega)⟩
      case round =>
        obtain ⟨k, n, hk, rfl, rfl, hall⟩ := hrel
        by_cases hlt : k < len
        · have d1 := C1.out k hlt
          have d2 := C2.out k hlt
          go_wp2
          go_quiet (fail)
          go_wp2
          · have ht : (xs[k]?.getD 0 != ys[k]?.getD 0) = true := by assumption
            go_ret
            refine ⟨ret_bool ?_, drewN_ex _ _ _⟩
            have : xs ≠ ys := by rintro rfl; simp at ht
            simp [eqL, this]
          · have ht : (xs[k]?.getD 0 != ys[k]?.getD 0) = false := by assumption
            go_roundw
            case rel =>
              refine ⟨k + 1, _, by omega, by go_num, rfl, fun i hi => ?_⟩
              rcases Nat.lt_or_ge i k with h | h
              · exact hall.out i h
              · obtain rfl : i = k := by omega
                simpa [List.getD_eq_getElem?_getD] using ht
            case measure => simp [intOf]; omega
        · go_wp2
          go_ret
          refine ⟨ret_bool ?_, n, rfl⟩
          exact (eqL_iff.2 (ext_getD HN.out fun i hi => hall.out i (by rw [← HL.out] at hi; omega))).symm
  · have hf : eqL xs ys = false := by
      have : xs ≠ ys := by rintro rfl; exact hne rfl
      simp [eqL, this]
    rw [hf]
    clear hf h1 h2 q1 q2
    have ht : ((xs.length : Int) != (ys.length : Int)) = true := by simp; omega
    clear hne
    generalize xs.length = l1 at ht m1 ⊢
    generalize ys.length = l2 at ht m2 ⊢
    go_enter Try.func15, Try.ntmps15
    go_wp2
    go_ret
    exact ⟨rfl, 0, rfl⟩

theorem Try.infoU8 : (Try.prog.info? 5).map (fun i => (i.zero, i.size, i.bytes)) = some (some (.int .u8 0), 1, 1) := by kernel_rfl

end Go.Proofs.Ytobicndpkojgiaa

/-! OwnT -/
namespace Go.Proofs.Ytobicndpkojgiaa
open Go.RowKit

/-- tokens as cells -/
def tv : List (Int × Int) → List Value
  | [] => []
  | t :: l => .int .i64 t.1 :: .int .i64 t.2 :: tv l
theorem tv_len : ∀ l : List (Int × Int), (tv l).length = l.length * 2
  | [] => rfl
  | t :: l => by rw [tv, List.length_cons, List.length_cons, tv_len l, List.length_cons]; omega
theorem tv_app : ∀ l m : List (Int × Int), tv (l ++ m) = tv l ++ tv m
  | [], _ => rfl
  | t :: l, m => by rw [List.cons_append, tv, tv, tv_app l m]; rfl
theorem tv_at : ∀ {l : List (Int × Int)} {i : Nat}, i < l.length → (tv l)[i * 2]? = some (.int .i64 (l.getD i (0, 0)).1) ∧ (tv l)[i * 2 + 1]? = some (.int .i64 (l.getD i (0, 0)).2)
  | [], _, h => by simp at h
  | t :: l, 0, _ => by simp [tv]
  | t :: l, i + 1, h => by
    have ih := tv_at (l := l) (i := i) (by simpa using h)
    rw [tv, show (i + 1) * 2 = i * 2 + 2 by omega]
    simpa using ih
theorem tv_oneCell : ∀ (l : List (Int × Int)), ∀ u ∈ tv l, u.oneCell' = true
  | [], _, h => by cases h
  | t :: l, u, h => by
    rw [tv] at h
    simp only [List.mem_cons] at h
    rcases h with rfl | rfl | h
    · rfl
    · rfl
    · exact tv_oneCell l u h
/-- A slice of tokens of the call's own. -/
def OwnT (e base : Nat) (w : World) (v : Value) (l : List (Int × Int)) : Prop := w.ownsRow base e 2 v l.length (tv l)
theorem OwnT.nil (e base : Nat) (w : World) : OwnT e base w (.slice none 0 0) [] := World.ownsRow_nil _ _ _ _
theorem OwnT.tk {e base : Nat} {w : World} {v : Value} {l : List (Int × Int)} (h : OwnT e base w v l) : Tk w v l := by
  obtain ⟨h1, h2⟩ := h
  rcases h2 with ⟨rfl, hn⟩ | ⟨g, cap, cur, rfl, hb, hg, hnc, hcm, hcs, ht⟩
  · exact ⟨none, 0, by rw [hn], by omega, by unfold maxLen; omega, .inl rfl⟩
  · have key : ∀ j, j < l.length * 2 → w.cell? ⟨g, 0 + j, none⟩ = (tv l)[j]? := fun j hj => by
      rw [cell_of_row w g (0 + j) cur e (0, 0) hg, ← ht, List.getElem?_take, if_pos hj]
      simp
    refine ⟨some ⟨g, 0, none⟩, cap, rfl, hnc, hcm, .inr ⟨g, 0, rfl, fun _ => (Array.getElem?_eq_some_iff.1 hg).1, fun i hi => ?_⟩⟩
    obtain ⟨a1, a2⟩ := tv_at hi
    exact ⟨(key (i * 2) (by omega)).trans a1, (key (i * 2 + 1) (by omega)).trans a2⟩
theorem OwnT.below {e base : Nat} {w w' : World} {v : Value} {l : List (Int × Int)} (h : OwnT e base w v l) (hb : Below w.heap.size w w') : OwnT e base w' v l := by
  obtain ⟨h1, h2⟩ := h
  refine ⟨h1, ?_⟩
  rcases h2 with h2 | ⟨g, cap, cur, hv, hg, hh, r⟩
  · exact .inl h2
  · exact .inr ⟨g, cap, cur, hv, hg, by rw [hb.block g (Array.getElem?_eq_some_iff.1 hh).1]; exact hh, r⟩
theorem OwnT.alloc {e base : Nat} {w : World} {v : Value} {l : List (Int × Int)} (h : OwnT e base w v l) (o : Obj) : OwnT e base (w.alloc o) v l := h.below ((Below.refl _ _).alloc (Nat.le_refl _) _)
theorem OwnT.mono {e base base' : Nat} {w : World} {v : Value} {l : List (Int × Int)} (h : OwnT e base w v l) (hb : base' ≤ base) : OwnT e base' w v l := by
  obtain ⟨h1, h2⟩ := h
  refine ⟨h1, ?_⟩
  rcases h2 with h2 | ⟨g, cap, cur, hv, hg, r⟩
  · exact .inl h2
  · exact .inr ⟨g, cap, cur, hv, by omega, r⟩
theorem OwnT.form {e base : Nat} {w : World} {v : Value} {l : List (Int × Int)} (h : OwnT e base w v l) : ∃ a c, v = .slice a l.length c := h.tk.form
/-- a row of another type grows: these tokens stay -/
theorem OwnT.apart {e base e' base' : Nat} {k : IntKind} {w w' : World} {v u : Value} {l : List (Int × Int)} {xs : List Int} (h : OwnT e base w v l) (ho : Own k e' base' w u xs) (ht : e ≠ e') (hg : w.grownBy w' u.ownBlock) : OwnT e base w' v l := by
  refine World.ownsRow.kept h hg ?_
  rcases h.2 with ⟨rfl, hn⟩ | ⟨g, cap, cur, rfl, hb, hh, -⟩
  · exact .inl rfl
  · exact .inr fun e1 => ho.other (t := e) (cs := cur.toList) (B := g) (by unfold Box; rw [hh]) ht e1
/-- numbers of the call's own stay while tokens are appended -/
theorem OwnT.leaves {e base e' base' : Nat} {k : IntKind} {w w' : World} {v u : Value} {l : List (Int × Int)} {xs : List Int} (h : OwnT e base w v l) (ho : Own k e' base' w u xs) (ht : e ≠ e') (hg : w.grownBy w' v.ownBlock) : Own k e' base' w' u xs := by
  refine World.ownsRow.kept ho hg ?_
  rcases h.2 with ⟨rfl, hn⟩ | ⟨g, cap, cur, rfl, hb, hh, -⟩
  · cases hu : u.ownBlock with
    | none => exact .inl rfl
    | some c => exact .inr (by simp [Value.ownBlock])
  · cases hu : u.ownBlock with
    | none => exact .inl rfl
    | some c =>
      refine .inr fun e1 => ?_
      have h2 := ho.other (t := e) (cs := cur.toList) (B := g) (by unfold Box; rw [hh]) ht
      exact h2 (by rw [hu, ← e1.symm]; rfl)
theorem Box.grownT {e base : Nat} {w w' : World} {v : Value} {l : List (Int × Int)} {t : TypeId} {cs : List Value} {B : Nat} (hb : Box t cs B w) (h : OwnT e base w v l) (hg : w.grownBy w' v.ownBlock) (ht : t ≠ e) : Box t cs B w' := by
  refine (hg.block B hb.lt fun e1 => ?_).trans hb
  rcases h.2 with ⟨rfl, hn⟩ | ⟨g, cap, cur, rfl, -, hh, -⟩
  · cases e1
  · have e2 : B = g := by simpa [Value.ownBlock] using e1
    subst e2
    unfold Box at hb
    rw [hb] at hh
    injection hh with hh
    injection hh with _ hh
    exact ht hh
/-- append(dst, t) -/
theorem wpList_appT {P : Program} (w : World) {ops : Array Oper} {rest : List Oper} {o : Oper} {a : Act} {Q : Exit → Act → World → Prop} (hgd : o.guard = none) (s x : Operand) (t : TypeId)
    (ho : o.op = .call { callee := .builtin .append, args := #[s, x], argTypes := #[t, t] })
    (base e : Nat) (bytes : Nat) (i : TypeInfo) (z : Value) (ht : P.underlying t = some (.slice e)) (hi : P.info? e = some i) (hz : i.zero = some z) (hsize : i.size = 2) (hby : i.bytes = bytes) (hzs : z.cells.size = 2)
    (v : Value) (l : List (Int × Int)) (hs : a.eval s = v) (hown : OwnT e base w v l) (b : Nat) (r : Int × Int) (hx : a.eval x = .slice (some ⟨b, 0, none⟩) 1 1)
    (hc : w.cell? ⟨b, 0, none⟩ = some (.int .i64 r.1) ∧ w.cell? ⟨b, 1, none⟩ = some (.int .i64 r.2))
    (h63 : l.length + 1 ≤ maxLen) (hbytes : (l.length + 1) * bytes ≤ 140737488355328) (hbase : base ≤ w.heap.size)
    (h : ∀ g cap w', OwnT e base w' (.slice (some ⟨g, 0, none⟩) (l.length + 1) cap) (l ++ [r]) → Below base w w' → w.grownBy w' v.ownBlock → wpList P ops Q rest (a.put o.dst (.slice (some ⟨g, 0, none⟩) (l.length + 1) cap)) w') : wpList P ops Q (o :: rest) a w := by
  refine wpList_append_lies w hgd s x t ho base e i z 2 bytes ht hi hz hsize hby hzs (by decide) v l.length (tv l) hs hown ⟨b, 0, none⟩ 1 1 (tv [r]) hx (by simp [tv]) ?_ (tv_oneCell [r]) (by decide) h63 hbytes hbase w.heap.size rfl ?_
  · intro j u hj
    match j, hj with
    | 0, hj => simp [tv] at hj; subst hj; simpa [Addr.add] using hc.1
    | 1, hj => simp [tv] at hj; subst hj; simpa [Addr.add] using hc.2
    | j + 2, hj => simp [tv] at hj
  · intro g cap w' hown' hg _ _
    exact h g cap w' (by unfold OwnT; rw [tv_app, List.length_append]; exact hown') ((Below.refl base w).grown hg hbase (fun k hk => (World.ownsRow.lt hown k hk).1)) hg
end Go.Proofs.Ytobicndpkojgiaa

/-! Twin -/
namespace Go.Proofs.Ytobicndpkojgiaa
open Go.RowKit

theorem keepTwin (v : Value) (xs : List Int) (w : World) (h : Sl .u8 w v xs) (hl : xs.length ≤ 100000000000000) :
    Calls Try.prog 19 #[v] w fun e w' => ∃ v', e = .returned v' ∧ Own .u8 5 w.heap.size w' v' xs ∧ Below w.heap.size w w' := by
  have H := hid h
  obtain ⟨a, cap, rfl, -, -, -⟩ := h
  go_enter Try.func19, Try.ntmps19
  go_wp2_with (at_builtin; refine wpList_app _ rfl _ _ 23 rfl .u8 w.heap.size 5 1 Try.underlying23 Try.infoU8 _ [] xs rfl (Own.nil _ _ _ _) _ rfl H.out (by unfold maxLen; simp; omega) (by simp; omega) (by omega) ?_; intro v' w' ho hg hb hn)
  go_ret
  exact ⟨_, rfl, ho, hb⟩

end Go.Proofs.Ytobicndpkojgiaa
