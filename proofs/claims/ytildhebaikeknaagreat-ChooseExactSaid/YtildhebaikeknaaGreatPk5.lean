/- Several texts in one: Maps6, OpenB, OpenL. -/
import Derived.Test.YtildhebaikeknaaGreatPk1
import Derived.Deep.AppendLies
import Derived.Great.Walk
import Derived.ProofKit
import Derived.OpenShut
import Derived.ShutString
import Derived.ChangeOld
import Derived.Deep.Fields
/-! Maps6 -/
namespace Go.Proofs.YtildhebaikeknaaGreat
open Go.RowKit

/-- a scalar, and what it becomes -/
structure Mp where
  f : Int
  t : List Int
def noMp : Mp := ⟨0, []⟩
/-- the cells of such a list, us the slices -/
def mv : List Mp → List Value → List Value
  | m :: l, u :: us => .int .i64 m.f :: u :: mv l us
  | _, _ => []
/-- what the slices hold -/
def Tos (base : Nat) (w : World) : List Mp → List Value → Prop
  | [], [] => True
  | m :: l, u :: us => Own .i64 3 base w u m.t ∧ Tos base w l us
  | _, _ => False
theorem Tos.len {base : Nat} {w : World} : ∀ {l : List Mp} {us : List Value}, Tos base w l us → us.length = l.length
  | [], [], _ => rfl
  | _ :: _, _ :: _, h => by rw [List.length_cons, List.length_cons, Tos.len h.2]
  | [], _ :: _, h => h.elim
  | _ :: _, [], h => h.elim
theorem mv_len : ∀ {l : List Mp} {us : List Value}, us.length = l.length → (mv l us).length = l.length * 2
  | [], [], _ => rfl
  | _ :: l, _ :: us, h => by rw [mv, List.length_cons, List.length_cons, mv_len (by simpa using h), List.length_cons]; omega
  | [], _ :: _, h => by simp at h
  | _ :: _, [], h => by simp at h
theorem Tos.map {base base' : Nat} {w w' : World} (hf : ∀ u xs, Own .i64 3 base w u xs → Own .i64 3 base' w' u xs) : ∀ {l : List Mp} {us : List Value}, Tos base w l us → Tos base' w' l us
  | [], [], _ => trivial
  | _ :: _, _ :: _, h => ⟨hf _ _ h.1, Tos.map hf h.2⟩
  | [], _ :: _, h => h.elim
  | _ :: _, [], h => h.elim
theorem mv_app : ∀ {l : List Mp} {us : List Value} (m : Mp) (u : Value), us.length = l.length → mv (l ++ [m]) (us ++ [u]) = mv l us ++ [.int .i64 m.f, u]
  | [], [], _, _, _ => rfl
  | _ :: l, _ :: us, m, u, h => by rw [List.cons_append, List.cons_append, mv, mv, mv_app m u (by simpa using h)]; rfl
  | [], _ :: _, _, _, h => by simp at h
  | _ :: _, [], _, _, h => by simp at h
theorem Tos.app {base : Nat} {w : World} : ∀ {l : List Mp} {us : List Value} {m : Mp} {u : Value}, Tos base w l us → Own .i64 3 base w u m.t → Tos base w (l ++ [m]) (us ++ [u])
  | [], [], _, _, _, hu => ⟨hu, trivial⟩
  | _ :: _, _ :: _, _, _, h, hu => ⟨h.1, Tos.app h.2 hu⟩
  | [], _ :: _, _, _, h, _ => h.elim
  | _ :: _, [], _, _, h, _ => h.elim
theorem Tos.at {base : Nat} {w : World} : ∀ {l : List Mp} {us : List Value} {i : Nat}, Tos base w l us → i < l.length → ∃ u, (mv l us)[i * 2]? = some (.int .i64 (l.getD i noMp).f) ∧ (mv l us)[i * 2 + 1]? = some u ∧ Own .i64 3 base w u (l.getD i noMp).t
  | [], [], _, _, h => by simp at h
  | _ :: _, u :: _, 0, h, _ => ⟨u, by simp [mv], by simp [mv], h.1⟩
  | _ :: l, _ :: us, i + 1, h, hi => by
    obtain ⟨u, h1, h2, h3⟩ := Tos.at (i := i) h.2 (by simpa using hi)
    refine ⟨u, ?_, ?_, h3⟩
    · rw [mv, show (i + 1) * 2 = i * 2 + 2 by omega]; simpa using h1
    · rw [mv, show (i + 1) * 2 + 1 = i * 2 + 1 + 2 by omega]; simpa using h2
  | [], _ :: _, _, h, _ => h.elim
  | _ :: _, [], _, h, _ => h.elim
theorem Own.one {k : IntKind} {e base : Nat} {w : World} {v : Value} {xs : List Int} (h : Own k e base w v xs) : v.oneCell' = true := by
  obtain ⟨a, c, rfl⟩ := h.sl.form
  rfl
theorem Tos.one {base : Nat} {w : World} : ∀ {l : List Mp} {us : List Value}, Tos base w l us → ∀ u ∈ mv l us, u.oneCell' = true
  | [], [], _, _, h => by cases h
  | _ :: _, _ :: _, h, u, hu => by
    rw [mv] at hu
    simp only [List.mem_cons] at hu
    rcases hu with rfl | rfl | hu
    · rfl
    · exact h.1.one
    · exact Tos.one h.2 u hu
  | [], _ :: _, h, _, _ => h.elim
  | _ :: _, [], h, _, _ => h.elim

/-- The value v is a slice that holds the list l. -/
def Sm (w : World) (v : Value) (l : List Mp) : Prop :=
  ∃ a cap, v = .slice a l.length cap ∧ l.length ≤ cap ∧ cap ≤ maxLen ∧
    (cap = 0 ∨ ∃ b off, a = some ⟨b, off, none⟩ ∧ (0 < l.length → b < w.heap.size) ∧ ∀ i, i < l.length →
      w.cell? ⟨b, off + i * 2, none⟩ = some (.int .i64 (l.getD i noMp).f) ∧ ∃ u, w.cell? ⟨b, off + i * 2 + 1, none⟩ = some u ∧ Sl .i64 w u (l.getD i noMp).t)
theorem Sm.below {w w' : World} {v : Value} {l : List Mp} (h : Sm w v l) (hb : Below w.heap.size w w') : Sm w' v l := by
  obtain ⟨a, cap, hv, hl, hm, h⟩ := h
  refine ⟨a, cap, hv, hl, hm, ?_⟩
  rcases h with h | ⟨b, off, ha, hbb, hc⟩
  · exact .inl h
  · refine .inr ⟨b, off, ha, fun h0 => Nat.lt_of_lt_of_le (hbb h0) hb.size, fun i hi => ?_⟩
    obtain ⟨h1, u, h2, h3⟩ := hc i hi
    have hlt := hbb (by omega)
    exact ⟨(hb.cell (p := ⟨b, off + i * 2, none⟩) hlt).trans h1, u, (hb.cell (p := ⟨b, off + i * 2 + 1, none⟩) hlt).trans h2, h3.below hb⟩
theorem Sm.drewN {w : World} {v : Value} {l : List Mp} (h : Sm w v l) (n : Nat) : Sm (w.drewN n) v l := h
theorem Sm.form {w : World} {v : Value} {l : List Mp} (h : Sm w v l) : ∃ a c, v = .slice a l.length c := by
  obtain ⟨a, c, rfl, -, -, -⟩ := h
  exact ⟨a, c, rfl⟩
theorem Sm.len {w : World} {v : Value} {l : List Mp} (h : Sm w v l) : l.length ≤ 9223372036854775807 := by
  obtain ⟨a, cap, _, hl, hm, _⟩ := h
  unfold maxLen at hm
  omega

/-- Such a slice of the call's own. -/
def OwnM (e base : Nat) (w : World) (v : Value) (l : List Mp) : Prop := ∃ us, Tos base w l us ∧ w.ownsRow base e 2 v l.length (mv l us)
theorem OwnM.below {e base : Nat} {w w' : World} {v : Value} {l : List Mp} (h : OwnM e base w v l) (hb : Below w.heap.size w w') : OwnM e base w' v l := by
  obtain ⟨us, ht, h1, h2⟩ := h
  refine ⟨us, ht.map fun u xs hu => hu.below hb, h1, ?_⟩
  rcases h2 with h2 | ⟨g, cap, cur, hv, hg, hh, r⟩
  · exact .inl h2
  · exact .inr ⟨g, cap, cur, hv, hg, by rw [hb.block g (Array.getElem?_eq_some_iff.1 hh).1]; exact hh, r⟩
theorem OwnM.mono {e base base' : Nat} {w : World} {v : Value} {l : List Mp} (h : OwnM e base w v l) (hb : base' ≤ base) : OwnM e base' w v l := by
  obtain ⟨us, ht, h1, h2⟩ := h
  refine ⟨us, ht.map fun u xs hu => hu.mono hb, h1, ?_⟩
  rcases h2 with h2 | ⟨g, cap, cur, hv, hg, r⟩
  · exact .inl h2
  · exact .inr ⟨g, cap, cur, hv, by omega, r⟩
theorem OwnM.sm {e base : Nat} {w : World} {v : Value} {l : List Mp} (h : OwnM e base w v l) : Sm w v l := by
  obtain ⟨us, hts, h1, h2⟩ := h
  have hlen := mv_len hts.len
  rcases h2 with ⟨rfl, hn⟩ | ⟨g, cap, cur, rfl, hb, hg, hnc, hcm, hcs, ht⟩
  · exact ⟨none, 0, by rw [hn], by omega, by unfold maxLen; omega, .inl rfl⟩
  · have key : ∀ j, j < l.length * 2 → w.cell? ⟨g, 0 + j, none⟩ = (mv l us)[j]? := fun j hj => by
      rw [cell_of_row w g (0 + j) cur e (0, 0) hg, ← ht, List.getElem?_take, if_pos hj]
      simp
    refine ⟨some ⟨g, 0, none⟩, cap, rfl, hnc, hcm, .inr ⟨g, 0, rfl, fun _ => (Array.getElem?_eq_some_iff.1 hg).1, fun i hi => ?_⟩⟩
    obtain ⟨u, a1, a2, a3⟩ := hts.at hi
    exact ⟨(key (i * 2) (by omega)).trans a1, u, (key (i * 2 + 1) (by omega)).trans a2, a3.sl⟩
theorem OwnM.form {e base : Nat} {w : World} {v : Value} {l : List Mp} (h : OwnM e base w v l) : ∃ a c, v = .slice a l.length c := h.sm.form

/-- what else is owned stays when a row of another type grows -/
theorem own_row {w w' : World} {base e size n : Nat} {v : Value} {cs : List Value} (h : w.ownsRow base e size v n cs) {k : IntKind} {e2 base2 : Nat} {u : Value} {xs : List Int} (ho : Own k e2 base2 w u xs) (ht : e2 ≠ e) (hg : w.grownBy w' v.ownBlock) : Own k e2 base2 w' u xs := by
  refine World.ownsRow.kept ho hg ?_
  cases hb : u.ownBlock with
  | none => exact .inl rfl
  | some c =>
    refine .inr fun hrow => ?_
    rcases h.2 with ⟨rfl, _⟩ | ⟨g, cap, cur, rfl, _, hg1, _⟩
    · simp [Value.ownBlock] at hrow
    · rcases ho.2 with ⟨rfl, _⟩ | ⟨g2, cap2, cur2, rfl, _, hg2, _⟩
      · simp [Value.ownBlock] at hb
      · simp [Value.ownBlock] at hrow hb
        subst hrow hb
        rw [hg1] at hg2
        simp at hg2
        exact ht hg2.2.symm

/-- append(dst, m): also what else stays -/
theorem wpList_appM {P : Program} (w : World) {ops : Array Oper} {rest : List Oper} {o : Oper} {a : Act} {Q : Exit → Act → World → Prop} (hgd : o.guard = none) (s x : Operand) (t : TypeId)
    (ho : o.op = .call { callee := .builtin .append, args := #[s, x], argTypes := #[t, t] })
    (base e : Nat) (he : 3 ≠ e) (bytes : Nat) (i : TypeInfo) (z : Value) (ht : P.underlying t = some (.slice e)) (hi : P.info? e = some i) (hz : i.zero = some z) (hsize : i.size = 2) (hby : i.bytes = bytes) (hzs : z.cells.size = 2)
    (v : Value) (l : List Mp) (n : Nat) (hn : n = l.length) (hs : a.eval s = v) (hown : OwnM e base w v l) (b : Nat) (m : Mp) (u : Value) (hx : a.eval x = .slice (some ⟨b, 0, none⟩) 1 1)
    (hc : w.cell? ⟨b, 0, none⟩ = some (.int .i64 m.f) ∧ w.cell? ⟨b, 1, none⟩ = some u) (hu : Own .i64 3 base w u m.t)
    (h63 : n + 1 ≤ maxLen) (hbytes : (n + 1) * bytes ≤ 140737488355328) (hbase : base ≤ w.heap.size)
    (h : ∀ v' w', OwnM e base w' v' (l ++ [m]) → w.grownBy w' v.ownBlock → Below base w w' → wpList P ops Q rest (a.put o.dst v') w') : wpList P ops Q (o :: rest) a w := by
  subst hn
  obtain ⟨us, hts, hrow⟩ := hown
  refine wpList_append_lies w hgd s x t ho base e i z 2 bytes ht hi hz hsize hby hzs (by decide) v l.length (mv l us) hs hrow ⟨b, 0, none⟩ 1 1 [.int .i64 m.f, u] hx (by simp) ?_ ?_ (by decide) h63 hbytes hbase w.heap.size rfl ?_
  · intro j y hj
    match j, hj with
    | 0, hj => simp at hj; subst hj; simpa [Addr.add] using hc.1
    | 1, hj => simp at hj; subst hj; simpa [Addr.add] using hc.2
    | j + 2, hj => simp at hj
  · intro y hy
    simp only [List.mem_cons, List.not_mem_nil, or_false] at hy
    rcases hy with rfl | rfl
    · rfl
    · exact hu.one
  · intro g cap w' hown' hg _ _
    refine h _ w' ⟨us ++ [u], Tos.app (hts.map fun u xs hu => own_row hrow hu he hg) (own_row hrow hu he hg), ?_⟩ hg ((Below.refl base w).grown hg hbase (fun k hk => (World.ownsRow.lt hrow k hk).1))
    rw [mv_app m u hts.len, List.length_append]
    exact hown'

/-! ### a literal of such a slice -/
/-- the operations that lay its parts -/
def mpOps (tS tM : TypeId) (pos : String) : Nat → Nat → List Mp → List Oper
  | _, _, [] => []
  | d, k, m :: l =>
    { dst := some d, op := .buildSlice tS m.t.length ((m.t.zipIdx 0).map fun x => (x.2, Operand.const (Value.int .i64 x.1))).toArray, type := tS, pos := pos, after := #[], guard := none } ::
    { dst := some (d + 1), op := .build tM #[(0, .const (.int .i64 m.f)), (1, .tmp d)], type := tM, pos := pos, after := #[{ on := k, ground := .data }], guard := none } :: mpOps tS tM pos (d + 2) (k + 2) l

theorem wpList_mps {P : Program} {ops : Array Oper} {rest : List Oper} {Q : Exit → Act → World → Prop} (tS tM : TypeId) (pos : String) (hu : P.underlying tS = some (.slice 3)) (hsz : (P.info? 3).map (·.size) = some 1) (hz : ((P.info? 3).bind (·.zero)).isSome = true)
    (hb : ∀ (x : Int) (B n : Nat), P.built tM [(0, .int .i64 x), (1, .slice (some ⟨B, 0, none⟩) n n)] = some #[.int .i64 x, .slice (some ⟨B, 0, none⟩) n n]) (base : Nat) :
    ∀ (l : List Mp) (d k : Nat) (a : Act) (w : World), d + 2 * l.length ≤ a.tmps.size → (l.all fun m => decide (0 < m.t.length) && decide (m.t.length ≤ 100)) = true → base ≤ w.heap.size →
      (∀ (a' : Act) (w' : World) (us : List Value), a'.tmps.size = a.tmps.size → a'.defers = a.defers → Tos base w' l us → (∀ i, i < l.length → a'.eval (.tmp (d + 2 * i + 1)) = .agg #[.int .i64 (l.getD i noMp).f, us.getD i undef]) →
        (∀ j, j < d → a'.eval (.tmp j) = a.eval (.tmp j)) → Below w.heap.size w w' → wpList P ops Q rest a' w') →
      wpList P ops Q (mpOps tS tM pos d k l ++ rest) a w
  | [], d, k, a, w, _, _, _, h => h a w [] rfl rfl trivial (fun i hi => by simp at hi) (fun _ _ => rfl) (Below.refl _ _)
  | m :: l, d, k, a, w, hd, hm, hbs, h => by
    simp only [List.all_cons, Bool.and_eq_true, decide_eq_true_eq] at hm
    have hlt : d + 1 < a.tmps.size := by simp at hd; omega
    show wpList P ops Q (_ :: _ :: (mpOps tS tM pos (d + 2) (k + 2) l ++ rest)) a w
    refine wpList_buildFlatAt rfl tS 3 m.t.length _ rfl .i64 m.t w.heap.size rfl (some d) rfl hu hsz hz rfl hm.1.1 (by omega) rfl ?_
    refine wpList_buildTo rfl tM _ rfl (some (d + 1)) rfl #[.int .i64 m.f, .slice (some ⟨w.heap.size, 0, none⟩) m.t.length m.t.length] ?_ ?_
    · have e := Act.eval_put_same a d (.slice (some ⟨w.heap.size, 0, none⟩) m.t.length m.t.length) (by omega)
      simp only [List.map_toArray, List.map_cons, List.map_nil]
      rw [e]
      exact hb _ _ _
    have ho : Own .i64 3 base (w.alloc (.cells (m.t.map (Value.int .i64)).toArray 3)) (.slice (some ⟨w.heap.size, 0, none⟩) m.t.length m.t.length) m.t := lit_own rfl hbs rfl rfl (by omega)
    have hbl := Below.alloc (Below.refl w.heap.size w) (Nat.le_refl _) (.cells (m.t.map (Value.int .i64)).toArray 3)
    refine wpList_mps tS tM pos hu hsz hz hb base l (d + 2) (k + 2) _ _ (by rw [Act.size_put, Act.size_put]; simp at hd; omega) hm.2 (Nat.le_trans hbs hbl.size) fun a' w' us hs hdf hts hev hlow hb' => ?_
    refine h a' w' (.slice (some ⟨w.heap.size, 0, none⟩) m.t.length m.t.length :: us) (hs.trans (by rw [Act.size_put, Act.size_put])) (hdf.trans (by rw [Act.defers_put', Act.defers_put'])) ⟨ho.below hb', hts⟩ (fun i hi => ?_) (fun j hj => ?_) (hbl.trans (hb'.mono hbl.size))
    · cases i with
      | zero =>
        rw [show d + 2 * 0 + 1 = d + 1 by omega, hlow (d + 1) (by omega), Act.eval_put_same _ _ _ (by rw [Act.size_put]; omega)]
        rfl
      | succ i =>
        have := hev i (by simpa using hi)
        rw [show d + 2 * (i + 1) + 1 = d + 2 + 2 * i + 1 by omega, this]
        rfl
    · rw [hlow j (by omega), Act.eval_put_ne _ _ _ _ (by omega), Act.eval_put_ne _ _ _ _ (by omega)]

/-- the slice over them -/
theorem wpList_buildMps {P : Program} {ops : Array Oper} {rest : List Oper} {o : Oper} {a : Act} {w : World} {Q : Exit → Act → World → Prop} (hg : o.guard = none) (t e : TypeId) (parts : Array (Nat × Operand)) (l : List Mp) (n : Nat) (hn : n = l.length) (us : List Value)
    (ho : o.op = .buildSlice t n parts) (d : Nat) (N : Nat) (hN : w.heap.size = N) (dst : Option Tmp) (hdst : o.dst = dst) (base : Nat) (hbs : base ≤ w.heap.size)
    (hu : P.underlying t = some (.slice e)) (hsz : (P.info? e).map (·.size) = some 2) (hz : ((P.info? e).bind (·.zero)).isSome = true)
    (hpos : 0 < l.length) (hsmall : l.length ≤ 100000) (hparts : parts.toList = (List.range n).map fun i => (i, Operand.tmp (d + 2 * i + 1))) (hts : Tos base w l us)
    (hev : ∀ i, i < l.length → a.eval (.tmp (d + 2 * i + 1)) = .agg #[.int .i64 (l.getD i noMp).f, us.getD i undef])
    (h : ∀ w', OwnM e base w' (.slice (some ⟨N, 0, none⟩) n n) l → Below w.heap.size w w' → wpList P ops Q rest (a.put dst (.slice (some ⟨N, 0, none⟩) n n)) w') : wpList P ops Q (o :: rest) a w := by
  subst hN hdst hn
  cases hie : P.info? e with
  | none => simp [hie] at hsz
  | some ie =>
    simp only [hie, Option.map_some, Option.some.injEq, Option.bind_some] at hsz hz
    obtain ⟨z, hzz⟩ := Option.isSome_iff_exists.1 hz
    have hl := hts.len
    have hbl := Below.alloc (Below.refl w.heap.size w) (Nat.le_refl _) (.cells (mv l us).toArray e)
    refine wpList_buildSlice hg t e l.length parts ho (mv l us).toArray ie z hu hie hzz (by rw [hsz]; omega) (by rw [hsz]; omega) ?_ (h _ ⟨us, hts.map fun u xs hu => hu.below hbl, ?_⟩ hbl)
    · have e0 : ∀ (l : List Mp) (us : List Value), us.length = l.length → (List.zipWith (fun (m : Mp) u => Value.agg #[.int .i64 m.f, u]) l us).flatMap (fun v => v.cells.toList) = mv l us := fun l => by
        induction l with
        | nil => intro us _; cases us <;> rfl
        | cons m l ih =>
          intro us hus
          cases us with
          | nil => simp at hus
          | cons u us => rw [List.zipWith_cons_cons, List.flatMap_cons, ih us (by simpa using hus)]; rfl
      have e1 : (parts.map fun (i, x) => (i, a.eval x)).toList = ((List.zipWith (fun (m : Mp) u => Value.agg #[.int .i64 m.f, u]) l us).zipIdx 0).map fun x => (x.2, x.1) := by
        rw [Array.toList_map, hparts, List.map_map]
        apply List.ext_getElem
        · simp [hl]
        · intro i h1 h2
          have hi : i < l.length := by simpa using h1
          simp only [List.getElem_map, List.getElem_range, Function.comp, List.getElem_zipIdx, Nat.zero_add, List.getElem_zipWith]
          rw [hev i hi]
          simp only [List.getD_eq_getElem?_getD, List.getElem?_eq_getElem hi, List.getElem?_eq_getElem (show i < us.length by omega), Option.getD_some]
      rw [e1, hsz]
      have := Go.Great.fill_whole (s := 2) (by omega) (List.zipWith (fun (m : Mp) u => Value.agg #[.int .i64 m.f, u]) l us) ((Array.range (l.length * 2)).map (z.cells[· % z.cells.size]!))
        (fun v hv => by
          obtain ⟨i, hi, rfl⟩ := List.getElem_of_mem hv
          rw [List.getElem_zipWith]
          rfl) (by simp [hl])
      rw [this, e0 l us hl]
    · have := World.ownsRow_lit (base := base) (e := e) (size := 2) w (mv l us).toArray l.length hbs (by unfold maxLen; omega) (by simp [mv_len hl])
      simpa using this
theorem Tryz.infoMp : (Tryz.prog.info? 70).map (fun i => (i.zero, i.size, i.bytes)) = some (some (.agg #[.int .i64 0, .slice none 0 0]), 2, 32) := by kernel_rfl

theorem laid_two (w : World) (A : Obj) (cs : Array Value) (e : TypeId) (j : Nat) : ((w.alloc A).alloc (.cells cs e)).cell? ⟨w.heap.size + 1, j, none⟩ = cs[j]? := by
  have := heap_alloc_new (w.alloc A) (.cells cs e)
  rw [cell_of_row _ (w.heap.size + 1) j cs e (0, 0) (by simpa using this)]
theorem laid_own (w : World) {base : Nat} (hb : base ≤ w.heap.size) (x : Int) (B : Obj) : Own .i64 3 base ((w.alloc (.cells #[.int .i64 x] 3)).alloc B) (.slice (some ⟨w.heap.size, 0, none⟩) 1 1) [x] :=
  Own.below (lit_own (xs := [x]) rfl hb rfl rfl (by simp)) (Below.alloc (Below.refl _ _) (Nat.le_refl _) _)
end Go.Proofs.YtildhebaikeknaaGreat

/-! OpenB -/
namespace Go.Proofs.YtildhebaikeknaaGreat
open Go.ChangeShapes Go.WideShapes Go.ChangeAt Go.RowKit Go.Deep
set_option linter.unusedVariables false
section
variable {H : Type} {enc : TypeId × Value → H} {P : Program} {w : World} {base : Nat} {spare : Nat → Bool} {held : Bool} {r : Reach} {b0 : Nat} {v : Value} {d : DataW H} {p : List MemPlace}

theorem wf_u8 {x : Int} (h : (Lit.int .u8 x).wf = true) : 0 ≤ x ∧ x ≤ 255 := by
  simpa [Lit.wf, IntKind.min, IntKind.max, IntKind.signed, IntKind.bits] using h
theorem wf_i64 {x : Int} (h : (Lit.int .i64 x).wf = true) : -9223372036854775808 ≤ x ∧ x ≤ 9223372036854775807 := by
  simpa [Lit.wf, IntKind.min, IntKind.max, IntKind.signed, IntKind.bits] using h

theorem open_bytes {t e : TypeId} (ht : P.underlying t = some (.slice e)) (he : P.underlying e = some (.int .u8)) (hc : P.cellsOf e = 1) (hv : Value.okWide P w r b0 t v) (h : DataW.Trod enc P w base (fun _ => true) held t v d p) :
    ∃ xs, Sl .u8 w v xs ∧ U8 xs := by
  obtain ⟨a0, len0, cap0, rfl⟩ := okWide_slice ht hv
  obtain ⟨fuel, hf⟩ := h
  rcases open_ints ht he hc hf with ⟨hcs, _⟩ | ⟨x, l, c, zs, hcs, _, hl, hm, hz, _, hcell, hwz⟩
  · simp [Value.cells] at hcs
    obtain ⟨rfl, rfl, rfl⟩ := hcs
    exact ⟨[], ⟨none, 0, rfl, Nat.le_refl _, by unfold maxLen; omega, .inl rfl⟩, U8.nil⟩
  · simp [Value.cells] at hcs
    obtain ⟨rfl, rfl, rfl⟩ := hcs
    have hzl : zs.length = cap0 := by rw [hz]; simp
    have hlen : (zs.take len0).length = len0 := by simp; omega
    refine ⟨zs.take len0, ⟨some x, cap0, by rw [hlen], by rw [hlen]; exact hl, hm, ?_⟩, fun n hn => wf_u8 (hwz n (List.mem_of_mem_take hn))⟩
    rcases Nat.eq_zero_or_pos zs.length with h0 | h0
    · exact .inl (by omega)
    · obtain ⟨b, off, spot⟩ := x
      have hc0 := hcell 0 h0
      have hspot : spot = none := by simpa [Addr.add] using World.cell?_spot hc0
      subst hspot
      refine .inr ⟨b, off, rfl, fun _ => World.block_lt_of_cell? w _ hc0, fun i hi => ?_⟩
      rw [hlen] at hi
      have := hcell i (by omega)
      rw [show (⟨b, off, none⟩ : Addr).add i = ⟨b, off + i, none⟩ by unfold Addr.add; split <;> simp_all] at this
      rw [this]
      simp [List.getD_eq_getElem?_getD, hi]

end
end Go.Proofs.YtildhebaikeknaaGreat

/-! OpenL -/
namespace Go.Proofs.YtildhebaikeknaaGreat
open Go.ChangeShapes Go.WideShapes Go.ChangeAt Go.RowKit Go.Deep
set_option linter.unusedVariables false
section
variable {H : Type} {enc : TypeId × Value → H} {P : Program} {w : World} {base : Nat} {spare : Nat → Bool} {held : Bool} {r : Reach} {b0 : Nat} {v : Value} {d : DataW H} {p : List MemPlace}

theorem open_intl {t e : TypeId} (ht : P.underlying t = some (.slice e)) (he : P.underlying e = some (.int .i64)) (hc : P.cellsOf e = 1) (hv : Value.okWide P w r b0 t v) (h : DataW.Trod enc P w base (fun _ => true) held t v d p) :
    ∃ xs, Sl .i64 w v xs ∧ ∀ x ∈ xs, -9223372036854775808 ≤ x ∧ x ≤ 9223372036854775807 := by
  obtain ⟨a0, len0, cap0, rfl⟩ := okWide_slice ht hv
  obtain ⟨fuel, hf⟩ := h
  rcases open_ints ht he hc hf with ⟨hcs, _⟩ | ⟨x, l, c, zs, hcs, _, hl, hm, hz, _, hcell, hwz⟩
  · simp [Value.cells] at hcs
    obtain ⟨rfl, rfl, rfl⟩ := hcs
    exact ⟨[], ⟨none, 0, rfl, Nat.le_refl _, by unfold maxLen; omega, .inl rfl⟩, (fun _ h => by cases h)⟩
  · simp [Value.cells] at hcs
    obtain ⟨rfl, rfl, rfl⟩ := hcs
    have hzl : zs.length = cap0 := by rw [hz]; simp
    have hlen : (zs.take len0).length = len0 := by simp; omega
    refine ⟨zs.take len0, ⟨some x, cap0, by rw [hlen], by rw [hlen]; exact hl, hm, ?_⟩, fun n hn => wf_i64 (hwz n (List.mem_of_mem_take hn))⟩
    rcases Nat.eq_zero_or_pos zs.length with h0 | h0
    · exact .inl (by omega)
    · obtain ⟨b, off, spot⟩ := x
      have hc0 := hcell 0 h0
      have hspot : spot = none := by simpa [Addr.add] using World.cell?_spot hc0
      subst hspot
      refine .inr ⟨b, off, rfl, fun _ => World.block_lt_of_cell? w _ hc0, fun i hi => ?_⟩
      rw [hlen] at hi
      have := hcell i (by omega)
      rw [show (⟨b, off, none⟩ : Addr).add i = ⟨b, off + i, none⟩ by unfold Addr.add; split <;> simp_all] at this
      rw [this]
      simp [List.getD_eq_getElem?_getD, hi]

theorem open_inl {t e : TypeId} (ht : P.underlying t = some (.slice e)) (he : P.underlying e = some (.int .i64)) (hc : P.cellsOf e = 1) (hv : Value.okWide P w r b0 t v) (h : DataW.Trod enc P w base (fun _ => true) held t v d p) :
    ∃ xs : List Int, Sl .i64 w v xs ∧ xs.all inI = true := by
  obtain ⟨xs, h1, h2⟩ := open_intl ht he hc hv h
  exact ⟨xs, h1, List.all_eq_true.2 fun x hx => inI_of (h2 x hx)⟩
end
end Go.Proofs.YtildhebaikeknaaGreat
