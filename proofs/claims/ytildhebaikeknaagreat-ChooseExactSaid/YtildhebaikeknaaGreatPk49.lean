/- Several texts in one: ShOk, Sh17a, Te18a, Te18b, Sh17p, Sh17q, Sh17r, Sh17b, Sh17c, Sh17d, Sh17e, Sh17f, Sh17g, Sh17h, Sh17i. -/
import Derived.Test.YtildhebaikeknaaGreatPk23
import Derived.Test.YtildhebaikeknaaGreatPk39
import Derived.Test.YtildhebaikeknaaGreatPk1
import Derived.Test.YtildhebaikeknaaGreatPk46
import Derived.Test.YtildhebaikeknaaGreatPk16
import Derived.Carry
import Derived.Maps.Keyed
import Derived.Maps.OwnSet
import Derived.DeepKeys4
import Derived.DataBytes
import Derived.Test.YtildhebaikeknaaGreatPk3
import Derived.Test.YtildhebaikeknaaGreatPk4
/-! ShOk -/
namespace Go.Proofs.YtildhebaikeknaaGreat
open Go.RowKit

/-- the tokens, where they fail, how -/
def tkL : List (Int × Int) ⊕ (Nat × Int) → List (Int × Int)
  | .inl x => x
  | .inr _ => []
def tkAt : List (Int × Int) ⊕ (Nat × Int) → Nat
  | .inl _ => 0
  | .inr (i, _) => i
def tkE : List (Int × Int) ⊕ (Nat × Int) → Int
  | .inl _ => 0
  | .inr (_, e) => e
def escE (g s : Int) : Int := if 0 ≤ g ∧ g ≤ 3 then (if finalS s = 0 then 12 else 0) else 1
def escL (g s : Int) : List Int := if escE g s = 0 then escP g s else []
def ShEscOk : Prop := ∀ (g s : Int) (w : World), inI g = true → inI s = true → Calls Tryz.prog 100 #[.int .i64 g, .int .i64 s] w fun e w' => ∃ x, e = .returned (.tuple #[x, .int .i64 (escE g s)]) ∧ Own .u8 5 w.heap.size w' x (escL g s) ∧ Below w.heap.size w w'
theorem w17_tok : tokS [27, 40, 70, 97] = .inl [(126, 97)] := by decide +kernel
theorem w17_bad : tokS [97, 27, 40, 65] = .inr (1, 12) := by decide +kernel
theorem w17_esc : escL 1 87 = [27, 36, 41, 66] ∧ escE 1 87 = 0 := by decide +kernel

end Go.Proofs.YtildhebaikeknaaGreat

/-! Sh17a -/
namespace Go.Proofs.YtildhebaikeknaaGreat
open Go.RowKit

/-- what is asked of csets.Wide, of csets.ByFinal -/
def WideE : Prop := ∀ (s : Int) (w : World), Calls Tryz.prog 81 #[.int .i64 s] w fun e w' => e = .returned (.bool (s == 87)) ∧ w = w'
def plB (x : Int) : Bool := decide (33 ≤ x ∧ x ≤ 126)
theorem results_tk3 {P : Program} {fn : Func} {p u x : Tmp} {ty : TypeId} (h : fn.results = #[.cell p ty, .tmp u, .tmp x]) {tmps : Array Value} {B : Nat} (hp : tmps.getD p undef = .pointer (some ⟨B, 0, none⟩)) {w : World} {y : Value} (hl : (loadVar ty ⟨B, 0, none⟩).run P w = .ok y w) :
    (results fn tmps).run P w = .ok (.tuple #[y, tmps.getD u undef, tmps.getD x undef]) w := by
  have e : (results fn tmps).run P w = ((asAddr (tmps.getD p undef)).run P w).andThen fun a w₁ => ((loadVar ty a).run P w₁).andThen fun y w₂ => .ok (.tuple #[y, tmps.getD u undef, tmps.getD x undef]) w₂ := by
    simp only [results, h]
    simp [Sem.run_bind, Result.andThen]
  have ha : (asAddr (.pointer (some ⟨B, 0, none⟩))).run P w = .ok ⟨B, 0, none⟩ w := by simp [asAddr]
  rw [e, hp, ha]
  simp only [Result.andThen]
  rw [hl]
theorem Box.two {t : TypeId} {a b : Value} {B : Nat} {w : World} (h : Box t [a, b] B w) (x y : Value) : Box t [x, y] B ((w.setCell ⟨B, 0, none⟩ x).setCell ⟨B, 1, none⟩ y) :=
  (h.set 0 x).set 1 y
theorem below_two {base B : Nat} {a b : Value} {w0 w : World} (h : Below base w0 w) (hB : base ≤ B) : Below base w0 ((w.setCell ⟨B, 0, none⟩ a).setCell ⟨B, 1, none⟩ b) :=
  (h.setCell hB _).setCell hB _

/-- how the outcome of a piece is told: the token, how many bytes, no error; or no token, none, the error -/
def PlE : (((Int × Int) × Nat) ⊕ Int) → Ending
  | .inl (t, n) => .returned (.tuple #[.agg #[.int .i64 t.1, .int .i64 t.2], .int .i64 (n : Int), .int .i64 0])
  | .inr x => .returned (.tuple #[.agg #[.int .i64 0, .int .i64 0], .int .i64 0, .int .i64 x])
end Go.Proofs.YtildhebaikeknaaGreat

/-! Te18a -/
namespace Go.Proofs.YtildhebaikeknaaGreat
open Go.RowKit
set_option linter.unusedVariables false

/-- the two sets whose letters take accents -/
def hasL (g : Int) : Bool := g == 102 || g == 6
def isAcc (t : Int × Int) : Bool := t.1 == 103 && (markS t.2).2.2
def letOf (t : Int × Int) : Int × Bool := if hasL t.1 = true then (if (getS16 t.1 t.2).2 = true then (if letB (getS16 t.1 t.2).1 = true then ((getS16 t.1 t.2).1, true) else (0, false)) else (0, false)) else (0, false)
def accd (q : Int) (t : Int × Int) : Int × Bool := if t = (0, 32) then ((markS q).2.1, true) else if (letOf t).2 = true then pairS (letOf t).1 (markS q).1 else (0, false)
/-- the scalar that a token, or an accent and what follows it, forms -/
def uniS (t n : Int × Int) : Int × Bool := if isAcc t = true then accd t.2 n else if t.1 = 0 then (t.2, true) else getS16 t.1 t.2

theorem teHasLetters (g : Int) (w : World) : Calls Tryz.prog 85 #[.int .i64 g] w fun e w' => e = .returned (.bool (hasL g)) ∧ w = w' := by
  unfold hasL
  obtain ⟨q, hq⟩ : ∃ q, q = (g == 102) := ⟨_, rfl⟩
  rw [← hq]
  replace hq := hq.symm
  cases q with
  | false =>
    go_enter Tryz.func85, Tryz.ntmps85
    go_wp2
    go_ret
    exact ⟨rfl, rfl⟩
  | true =>
    go_enter Tryz.func85, Tryz.ntmps85
    go_wp2
    go_ret
    exact ⟨rfl, rfl⟩
end Go.Proofs.YtildhebaikeknaaGreat

/-! Te18b -/
namespace Go.Proofs.YtildhebaikeknaaGreat
open Go.RowKit Go.Maps
set_option linter.unusedVariables false

theorem wf_k18 {c : Int} (h : inI c = true) : (Lit.int .i64 c).wf = true := by
  unfold inI at h
  rw [decide_eq_true_iff] at h
  simpa [Lit.wf, IntKind.min, IntKind.max, IntKind.signed, IntKind.bits] using h
theorem types_more18 : ∃ m, Tryz.prog.types.size = m + 3 := ⟨Tryz.prog.types.size - 3, by
  have : 3 ≤ Tryz.prog.types.size := of_decide_eq_true (by kernel_rfl)
  omega⟩
/-- a unit, a task as keys -/
def uv18 (a p b r : Int) : Value := .agg #[.int .i64 a, .int .i64 p, .int .i64 b, .int .i64 r]
def kv (c g : Int) : Value := .agg #[.int .i64 c, .int .i64 g]
theorem int_cells18 : Tryz.prog.cellsOf 3 = 1 := by kernel_rfl
theorem ta_cells18 : Tryz.prog.cellsOf 79 = 2 := by kernel_rfl
theorem ta_keyType : Tryz.prog.keyType 79 = true := by kernel_rfl
theorem lits_int18 (m : Nat) {c : Int} (h : inI c = true) : Tryz.prog.keyLits (m + 1) 3 [.int .i64 c] = some [Lit.int .i64 c] := by
  unfold Program.keyLits
  simp only [Tryz.underlying3]
  rw [if_pos ⟨trivial, wf_k18 h⟩]
theorem ta_key {c g : Int} (hc : inI c = true) (hg : inI g = true) : ∃ l, keyOf Tryz.prog 79 (kv c g) = some l := by
  obtain ⟨m, hm⟩ := types_more18
  unfold keyOf kv
  simp only [Tryz.underlying79]
  rw [if_pos (by simp [ta_keyType, Value.formed, ta_cells18, Tryz.underlying79]), hm]
  unfold Program.keyLits
  simp only [Tryz.underlying79, Value.cells]
  rw [if_pos ⟨by rw [ta_cells18]; rfl, by simp⟩]
  simp [int_cells18, lits_int18, hc, hg]
theorem Tryz.laidOut18 : laidOutB Tryz.prog = true := by kernel_rfl
set_option maxRecDepth 100000 in
theorem ta_law : Keyed Tryz.prog 79 := Keyed.of_law (deep_law_laid Tryz.laidOut18 (m := 2) (by omega) (of_decide_eq_true (by kernel_rfl)) (by kernel_rfl) (by kernel_rfl))

theorem look_key {P : Program} {W : World} {T k e : TypeId} (K : Keyed P k) (ht : P.underlying T = some (.map k e)) {z : Value} (hz : (zeroValue e).run P W = .ok z W) {M : Nat} {es : Array MapEntry} {clock : Nat}
    (hM : W.heap[M]? = some (.map es clock)) (hes : ∀ x ∈ es.toList, ∃ l, keyOf P k x.key = some l) {key : Value} {kl : Lit} (hkey : keyOf P k key = some kl) :
    (Instr.lookup T (.map (some M)) key true).run P W = .ok (.tuple #[z, .bool false]) W ∨ ∃ e0 ∈ es.toList, e0.key = key ∧ (Instr.lookup T (.map (some M)) key true).run P W = .ok (.tuple #[e0.val, .bool true]) W := by
  rcases K.find W hkey es.toList hes with ⟨h1, _⟩ | ⟨j, e0, h1, h2, h3⟩
  · exact .inl (by simp [Instr.lookup, run_underlying ht, MapKept.run_getObj_map hM, K.check W _ hkey, h1, hz, Result.andThen])
  · exact .inr ⟨e0, List.mem_of_getElem? h2, h3, by simp [Instr.lookup, run_underlying ht, MapKept.run_getObj_map hM, K.check W _ hkey, h1, Result.andThen]⟩
theorem store_key {P : Program} {W : World} {T k e : TypeId} (K : Keyed P k) (ht : P.underlying T = some (.map k e)) {M : Nat} {es : Array MapEntry} {clock : Nat}
    (hM : W.heap[M]? = some (.map es clock)) (hes : ∀ x ∈ es.toList, ∃ l, keyOf P k x.key = some l) {key : Value} {kl : Lit} (hkey : keyOf P k key = some kl) (val : Value) :
    ∃ W', (Instr.mapUpdate T (.map (some M)) key val).run P W = .ok () W' ∧ W.grownBy W' (some M) ∧ ∃ es' clock', W'.heap[M]? = some (.map es' clock') ∧ ∀ x ∈ es'.toList, x ∈ es.toList ∨ (x.key = key ∧ x.val = val) := by
  have grown : ∀ o, W.grownBy (ChangeMaps.setBlock W M o) (some M) := fun o => ⟨rfl, rfl, rfl, by simp [ChangeMaps.setBlock], fun i _ hi => ChangeMaps.heap_setBlock_other hM _ (fun e => hi (by rw [e]))⟩
  rcases K.find W hkey es.toList hes with ⟨h1, _⟩ | ⟨j, e0, h1, h2, h3⟩
  · refine ⟨_, by simp [Instr.mapUpdate, run_underlying ht, MapKept.run_getObj_map hM, K.check W false hkey, h1, MapKept.run_setObj_map _ hM, Result.andThen]; rfl, grown _, _, _, ChangeMaps.heap_setBlock_same hM _, fun x hx => ?_⟩
    simp only [Array.toList_push, List.mem_append, List.mem_singleton] at hx
    rcases hx with hx | rfl
    · exact .inl hx
    · exact .inr ⟨rfl, rfl⟩
  · have hj : es[j]? = some e0 := by simpa using h2
    have hst := K.stays W hkey
    refine ⟨_, by simp [Instr.mapUpdate, run_underlying ht, MapKept.run_getObj_map hM, K.check W false hkey, h1, hj, h3, hst, MapKept.run_setObj_map _ hM, Result.andThen]; rfl, grown _, _, _, ChangeMaps.heap_setBlock_same hM _, fun x hx => ?_⟩
    rw [Array.toList_modify, ChangeMaps.modify_eq_set _ _ _ _ h2] at hx
    rcases List.mem_or_eq_of_mem_set hx with hx | rfl
    · exact .inl hx
    · exact .inr ⟨rfl, rfl⟩
theorem wpList_lookK {P : Program} {w : World} {ops : Array Oper} {rest : List Oper} {o : Oper} {a : Act} {Q : Exit → Act → World → Prop}
    (hg : o.guard = none) (m x : Operand) (T : TypeId) (hop : o.op = Op.lookup T m x true) (M : Nat) (key : Value) (hm : a.eval m = .map (some M)) (hx : a.eval x = key) {r : Value}
    (hrun : (Instr.lookup T (.map (some M)) key true).run P w = .ok r w) (hK : wpList P ops Q rest (a.put o.dst r) w) : wpList P ops Q (o :: rest) a w := by
  refine wpList_plain hg fun K' hK' => ?_
  unfold Oper.wp
  simp [execOp, hop, hm, hx, hrun, Result.andThen]
  exact hK' _ _ hK
theorem wpList_storeK {P : Program} {w : World} {ops : Array Oper} {rest : List Oper} {o : Oper} {a : Act} {Q : Exit → Act → World → Prop}
    (hg : o.guard = none) (m x y : Operand) (T : TypeId) (hop : o.op = Op.mapUpdate T m x y) (M : Nat) (key val : Value) (hm : a.eval m = .map (some M)) (hx : a.eval x = key) (hy : a.eval y = val) {w' : World}
    (hrun : (Instr.mapUpdate T (.map (some M)) key val).run P w = .ok () w') (hK : wpList P ops Q rest (a.put o.dst undef) w') : wpList P ops Q (o :: rest) a w := by
  refine wpList_plain hg fun K' hK' => ?_
  unfold Oper.wp
  simp [execOp, hop, hm, hx, hy, hrun, Result.andThen]
  exact hK' _ _ hK

/-- an entry tells which scalar a unit forms -/
def UnE (e : MapEntry) : Prop := ∃ a p b r c, e.key = uv18 a p b r ∧ (inI a = true ∧ inI p = true ∧ inI b = true ∧ inI r = true) ∧ e.val = .int .i64 c ∧ uniS (a, p) (b, r) = (c, true)
def MapU (M : Nat) (w : World) : Prop := ∃ es clock, w.heap[M]? = some (.map es clock) ∧ ∀ e ∈ es.toList, UnE e
theorem MapU.lt {M : Nat} {w : World} (h : MapU M w) : M < w.heap.size := by
  obtain ⟨es, clock, hm, -⟩ := h
  exact (Array.getElem?_eq_some_iff.1 hm).1
theorem MapU.same {M : Nat} {w w' : World} (h : MapU M w) (hb : w'.heap[M]? = w.heap[M]?) : MapU M w' := by
  obtain ⟨es, clock, hm, h1⟩ := h
  exact ⟨es, clock, hb.trans hm, h1⟩
theorem MapU.below {M : Nat} {w w' : World} (h : MapU M w) (hb : Below w.heap.size w w') : MapU M w' := h.same (hb.block M h.lt)
theorem MapU.nil {M clock : Nat} {w : World} (h : w.heap[M]? = some (.map #[] clock)) : MapU M w := ⟨_, _, h, fun e he => by simp at he⟩
theorem MapU.no {M : Nat} {w : World} (h : MapU M w) {cs : Array Value} {t : TypeId} {r : Nat × Nat} {B : Nat} (hb : w.heap[B]? = some (.cells cs t r)) : B ≠ M := fun e => by
  obtain ⟨es, clock, hm, -⟩ := h
  rw [e, hm] at hb
  cases hb
/-- an entry tells what is written for a task; its bytes lie apart from v -/
def PcE (base : Nat) (v : Value) (w : World) (e : MapEntry) : Prop := ∃ c g x h bs, e.key = kv c g ∧ (inI c = true ∧ inI g = true) ∧ e.val = .agg #[x, .int .i64 h] ∧ oneP g c = some (bs, h) ∧ Own .u8 5 base w x bs ∧ Apt v x
def MapP (base : Nat) (v : Value) (M : Nat) (w : World) : Prop := ∃ es clock, w.heap[M]? = some (.map es clock) ∧ ∀ e ∈ es.toList, PcE base v w e
theorem MapP.lt {base : Nat} {v : Value} {M : Nat} {w : World} (h : MapP base v M w) : M < w.heap.size := by
  obtain ⟨es, clock, hm, -⟩ := h
  exact (Array.getElem?_eq_some_iff.1 hm).1
theorem MapP.move {base : Nat} {v v' : Value} {M : Nat} {w w' : World} (h : MapP base v M w) (hb : w'.heap[M]? = w.heap[M]?) (hx : ∀ z zs, Own .u8 5 base w z zs → Apt v z → Own .u8 5 base w' z zs ∧ Apt v' z) : MapP base v' M w' := by
  obtain ⟨es, clock, hm, h1⟩ := h
  refine ⟨es, clock, hb.trans hm, fun e he => ?_⟩
  obtain ⟨c, g, x, h, bs, e1, e2, e3, e4, e5, e6⟩ := h1 e he
  obtain ⟨a, b⟩ := hx _ _ e5 e6
  exact ⟨c, g, x, h, bs, e1, e2, e3, e4, a, b⟩
theorem MapP.below {base : Nat} {v : Value} {M : Nat} {w w' : World} (h : MapP base v M w) (hb : Below w.heap.size w w') : MapP base v M w' := h.move (hb.block M h.lt) fun z zs h1 h2 => ⟨h1.below hb, h2⟩
theorem MapP.nil {base : Nat} {v : Value} {M clock : Nat} {w : World} (h : w.heap[M]? = some (.map #[] clock)) : MapP base v M w := ⟨_, _, h, fun e he => by simp at he⟩
theorem own_nomap18 {M base : Nat} {w : World} {es : Array MapEntry} {clock : Nat} {v : Value} {xs : List Int} (hm : w.heap[M]? = some (.map es clock)) (ho : Own .u8 5 base w v xs) : v.ownBlock ≠ some M := fun e => by
  rcases ho.2 with ⟨rfl, -⟩ | ⟨g, cap, cur, rfl, -, hh, -⟩
  · simp [Value.ownBlock] at e
  · have e' : g = M := by simpa [Value.ownBlock] using e
    subst e'
    rw [hm] at hh
    cases hh
theorem MapP.noown {base base' : Nat} {v u : Value} {M : Nat} {w : World} {xs : List Int} (h : MapP base v M w) (ho : Own .u8 5 base' w u xs) : u.ownBlock ≠ some M := by
  obtain ⟨es, clock, hm, -⟩ := h
  exact own_nomap18 hm ho
theorem MapP.look {base : Nat} {v : Value} {M : Nat} {w : World} (h : MapP base v M w) {c g : Int} (hc : inI c = true) (hg : inI g = true) :
    (Instr.lookup 77 (.map (some M)) (kv c g) true).run Tryz.prog w = .ok (.tuple #[.agg #[.slice none 0 0, .int .i64 0], .bool false]) w ∨ ∃ x h bs, oneP g c = some (bs, h) ∧ Own .u8 5 base w x bs ∧ Apt v x ∧ (Instr.lookup 77 (.map (some M)) (kv c g) true).run Tryz.prog w = .ok (.tuple #[.agg #[x, .int .i64 h], .bool true]) w := by
  obtain ⟨es, clock, hm, h1⟩ := h
  obtain ⟨kl, hk⟩ := ta_key hc hg
  have hz : (zeroValue 81).run Tryz.prog w = .ok (.agg #[.slice none 0 0, .int .i64 0]) w := by kernel_rfl
  rcases look_key ta_law Tryz.underlying77 hz hm (fun x hx => by
    obtain ⟨c', g', x', h', bs, e1, ⟨h1, h2⟩, -⟩ := h1 x hx
    rw [e1]
    exact ta_key h1 h2) hk with hl | ⟨e0, he0, hek, hl⟩
  · exact .inl hl
  · obtain ⟨c', g', x', h', bs, e1, -, e2, e3, e4, e5⟩ := h1 e0 he0
    rw [hek] at e1
    unfold kv at e1
    simp only [Value.agg.injEq, Array.mk.injEq, List.cons.injEq, Value.int.injEq, true_and, and_true] at e1
    obtain ⟨rfl, rfl⟩ := e1
    exact .inr ⟨x', h', bs, e3, e4, e5, by rw [hl, e2]⟩
theorem MapP.store {base : Nat} {v : Value} {M : Nat} {w : World} (h : MapP base v M w) {c g : Int} (hc : inI c = true) (hg : inI g = true) {x : Value} {h0 : Int} {bs : List Int} (hp : oneP g c = some (bs, h0)) (ho : Own .u8 5 base w x bs) (ha : Apt v x) :
    ∃ w', (Instr.mapUpdate 77 (.map (some M)) (kv c g) (.agg #[x, .int .i64 h0])).run Tryz.prog w = .ok () w' ∧ w.grownBy w' (some M) ∧ MapP base v M w' := by
  obtain ⟨es, clock, hm, h1⟩ := h
  obtain ⟨kl, hk⟩ := ta_key hc hg
  obtain ⟨w', h2, h3, es', clock', h4, h5⟩ := store_key ta_law Tryz.underlying77 hm (fun x hx => by
    obtain ⟨c', g', x', h', bs, e1, ⟨h1, h2⟩, -⟩ := h1 x hx
    rw [e1]
    exact ta_key h1 h2) hk (.agg #[x, .int .i64 h0])
  have kept : ∀ z zs, Own .u8 5 base w z zs → Own .u8 5 base w' z zs := fun z zs hz => World.ownsRow.kept hz h3 (.inr (own_nomap18 hm hz))
  refine ⟨w', h2, h3, es', clock', h4, fun y hy => ?_⟩
  rcases h5 y hy with hy | ⟨e1, e2⟩
  · obtain ⟨c', g', x', h', bs', e1, e2, e3, e4, e5, e6⟩ := h1 y hy
    exact ⟨c', g', x', h', bs', e1, e2, e3, e4, kept _ _ e5, e6⟩
  · exact ⟨c, g, x, h0, bs, e1, ⟨hc, hg⟩, e2, hp, kept _ _ ho, ha⟩
end Go.Proofs.YtildhebaikeknaaGreat

/-! Sh17p -/
namespace Go.Proofs.YtildhebaikeknaaGreat
open Go.RowKit

theorem plS_L (z c : Int) (r : List Int) (hg : ¬ 128 ≤ c) : plS z (c :: r) = (if 33 ≤ c ∧ c ≤ 126 then (if z = 0 then .inr 12 else if z ≠ 87 then .inl ((z, c), 1) else match r with | [] => .inr 2 | d :: _ => if 33 ≤ d ∧ d ≤ 126 then .inl ((z, 256 * (c) + (d)), 2) else .inr 11) else .inr 11) := by
  have hx : sdS c = 0 := by unfold sdS; rw [if_neg hg]
  simp only [plS, hx, Int.sub_zero]
  rfl

end Go.Proofs.YtildhebaikeknaaGreat

/-! Sh17q -/
namespace Go.Proofs.YtildhebaikeknaaGreat
open Go.RowKit

theorem plS_R (z c : Int) (r : List Int) (hg : 128 ≤ c) : plS z (c :: r) = (if 33 ≤ c - 128 ∧ c - 128 ≤ 126 then (if z = 0 then .inr 12 else if z ≠ 87 then .inl ((z, c - 128), 1) else match r with | [] => .inr 2 | d :: _ => if 33 ≤ d - 128 ∧ d - 128 ≤ 126 then .inl ((z, 256 * (c - 128) + (d - 128)), 2) else .inr 11) else .inr 11) := by
  have hx : sdS c = 128 := by unfold sdS; rw [if_pos hg]
  simp only [plS, hx]
  rfl

end Go.Proofs.YtildhebaikeknaaGreat

/-! Sh17r -/
namespace Go.Proofs.YtildhebaikeknaaGreat
open Go.RowKit

end Go.Proofs.YtildhebaikeknaaGreat

/-! Sh17b -/
namespace Go.Proofs.YtildhebaikeknaaGreat
open Go.RowKit

theorem grow_below {w w1 : World} (h : Below w.heap.size w w1) (r : Option Nat) : w.grownBy w1 r := ⟨h.os, h.tape, h.output, h.size, fun i hi _ => h.block i hi⟩
/-- a store into a block that is newer than a -/
theorem grow_far {a w : World} {r : Option Nat} (h : a.grownBy w r) {B : Nat} (hB : a.heap.size ≤ B) (j : Nat) (v : Value) : a.grownBy (w.setCell ⟨B, j, none⟩ v) r :=
  ⟨h.os, h.tape, h.output, Nat.le_trans h.size (by simp [World.setCell]), fun i hi hn => (Below.heap_setCell _ _ _ _ (fun e => by simp only at e; omega)).trans (h.block i hi hn)⟩

/-- what designates: the state then, or an error -/
def dsS (st : Rd) (wide : Bool) : List Int → Rd ⊕ Int
  | [] => .inr 2
  | h :: q => if 40 ≤ h ∧ h ≤ 43 then
      (match q with
      | [] => .inr 2
      | f :: _ => if (byFinS f wide).2 then .inl ⟨st.g.set (h - 40).toNat (byFinS f wide).1, st.left, st.right⟩ else .inr 12)
    else .inr 11
theorem dsS_bad {st : Rd} {wide : Bool} {h : Int} {q : List Int} (hh : ¬ (40 ≤ h ∧ h ≤ 43)) : dsS st wide (h :: q) = .inr 11 := by simp only [dsS, if_neg hh]
theorem dsS_short {st : Rd} {wide : Bool} {h : Int} (hh : 40 ≤ h ∧ h ≤ 43) : dsS st wide [h] = .inr 2 := by simp only [dsS, if_pos hh]
theorem dsS_two {st : Rd} {wide : Bool} {h f : Int} {q : List Int} (hh : 40 ≤ h ∧ h ≤ 43) : dsS st wide (h :: f :: q) = if (byFinS f wide).2 then .inl ⟨st.g.set (h - 40).toNat (byFinS f wide).1, st.left, st.right⟩ else .inr 12 := by simp only [dsS, if_pos hh]
def dsN (k : Nat) : (Rd ⊕ Int) → ((Rd × Nat) ⊕ Int)
  | .inl s => .inl (s, k)
  | .inr x => .inr x
theorem dropc {xs : List Int} {k : Nat} (h : k < xs.length) : xs.drop k = xs.getD k 0 :: xs.drop (k + 1) := by
  rw [List.drop_eq_getElem_cons h, List.getD_eq_getElem?_getD, List.getElem?_eq_getElem h]
  rfl

end Go.Proofs.YtildhebaikeknaaGreat

/-! Sh17c -/
namespace Go.Proofs.YtildhebaikeknaaGreat
open Go.RowKit

theorem es_other {st : Rd} {c : Int} {r : List Int} (h36 : c ≠ 36) (h33 : c ≠ 33) (h34 : c ≠ 34) (h110 : c ≠ 110) (h111 : c ≠ 111) (h124 : c ≠ 124) (h125 : c ≠ 125) (h126 : c ≠ 126) : esS st (c :: r) = dsN 2 (dsS st false (c :: r)) := by
  have n1 : ¬ (c = 33 ∨ c = 34) := by omega
  have n2 : ¬ (c = 110 ∨ c = 111) := by omega
  have n3 : ¬ (124 ≤ c ∧ c ≤ 126) := by omega
  by_cases h : 40 ≤ c ∧ c ≤ 43
  · cases r with
    | nil => simp only [esS, dsS, if_pos h, dsN]
    | cons f q => simp only [esS, dsS, if_pos h]; split <;> rfl
  · simp only [esS, dsS, if_neg h, if_neg h36, if_neg n1, if_neg n2, if_neg n3, dsN]
theorem es_36 {st : Rd} {r : List Int} : esS st (36 :: r) = dsN 3 (dsS st true r) := by
  have n1 : ¬ (40 ≤ (36 : Int) ∧ (36 : Int) ≤ 43) := by omega
  cases r with
  | nil => simp only [esS, dsS, if_neg n1, if_true, dsN]
  | cons h q =>
    by_cases hh : 40 ≤ h ∧ h ≤ 43
    · cases q with
      | nil => simp only [esS, dsS, if_neg n1, if_true, if_pos hh, dsN]
      | cons f q => simp only [esS, dsS, if_neg n1, if_true, if_pos hh]; split <;> rfl
    · simp only [esS, dsS, if_neg n1, if_true, if_neg hh, dsN]

end Go.Proofs.YtildhebaikeknaaGreat

/-! Sh17d -/
namespace Go.Proofs.YtildhebaikeknaaGreat
open Go.RowKit

/-- a single shift: how its outcome is told -/
def SgE : (((Int × Int) × Nat) ⊕ Int) → Ending → Prop
  | .inl (t, n), e => e = .returned (.tuple #[.agg #[.int .i64 t.1, .int .i64 t.2], .int .i64 ((n + 1 : Nat) : Int), .int .i64 0])
  | .inr x, e => ∃ n : Int, e = .returned (.tuple #[.agg #[.int .i64 0, .int .i64 0], .int .i64 n, .int .i64 x])

end Go.Proofs.YtildhebaikeknaaGreat

/-! Sh17e -/
namespace Go.Proofs.YtildhebaikeknaaGreat
open Go.RowKit
set_option linter.unusedVariables false

theorem box_after (w : World) (B j : Nat) (v : Value) (t : TypeId) (cs : List Value) : Box t cs w.heap.size ((w.setCell ⟨B, j, none⟩ v).alloc (.cells cs.toArray t)) := by
  have h := Box.made (w.setCell ⟨B, j, none⟩ v) t cs
  rwa [show (w.setCell ⟨B, j, none⟩ v).heap.size = w.heap.size from by simp [World.setCell]] at h

end Go.Proofs.YtildhebaikeknaaGreat

/-! Sh17f -/
namespace Go.Proofs.YtildhebaikeknaaGreat
open Go.RowKit
set_option linter.unusedVariables false

theorem pl_ne {set : Int} {b : List Int} {t : Int × Int} {n : Nat} (h : plS set b = .inl (t, n)) : t ≠ (0, 0) := by
  match b with
  | [] => cases h
  | [c] =>
    revert h
    simp only [plS]
    repeat' split
    all_goals (intro h; first | (cases h; done) | (injection h with h; injection h with h _; subst h; intro h; injection h with _ h; omega))
  | c :: d :: r =>
    revert h
    simp only [plS]
    repeat' split
    all_goals (intro h; first | (cases h; done) | (injection h with h; injection h with h _; subst h; intro h; injection h with _ h; omega))
theorem one_tk {t : Int × Int} (h : t ≠ (0, 0)) : [t] = if t = (0, 0) then [] else [t] := by rw [if_neg h]
theorem tk_25 {st : Rd} {r : List Int} : tkS st (25 :: r) = match plS (st.g.getD 2 0) r with | .inl (t, n) => .inl ([t], n + 1, st) | .inr e => .inr e := by
  simp [tkS]
  rfl
theorem tk_29 {st : Rd} {r : List Int} : tkS st (29 :: r) = match plS (st.g.getD 3 0) r with | .inl (t, n) => .inl ([t], n + 1, st) | .inr e => .inr e := by
  simp [tkS]
  rfl
theorem tk_27 {st : Rd} {r : List Int} : tkS st (27 :: r) = match esS st r with | .inl (s, n) => .inl ([], n + 1, s) | .inr e => .inr e := by
  simp [tkS]
  rfl

end Go.Proofs.YtildhebaikeknaaGreat

/-! Sh17g -/
namespace Go.Proofs.YtildhebaikeknaaGreat
open Go.RowKit
set_option linter.unusedVariables false

theorem tk_char {st : Rd} {c : Int} {r : List Int} (h1 : c ≠ 8) (h2 : c ≠ 10) (h3 : c ≠ 12) (h4 : c ≠ 13) (h5 : c ≠ 32) (h6 : c ≠ 14) (h7 : c ≠ 15) (h8 : c ≠ 25) (h9 : c ≠ 29) (h10 : c ≠ 27) :
    tkS st (c :: r) = match plS (if 128 ≤ c then st.g.getD st.right 0 else st.g.getD st.left 0) (c :: r) with | .inl (t, n) => .inl ([t], n, st) | .inr e => .inr e := by
  have n1 : ¬ (c = 32 ∨ c = 8 ∨ c = 10 ∨ c = 12 ∨ c = 13) := by omega
  have n2 : ¬ (c = 14 ∨ c = 15) := by omega
  have n3 : ¬ (c = 25 ∨ c = 29) := by omega
  by_cases hr : (33 ≤ c ∧ c ≤ 126) ∨ (161 ≤ c ∧ c ≤ 254)
  · have e1 : st.g.getD (if 126 < c then st.right else st.left) 0 = if 128 ≤ c then st.g.getD st.right 0 else st.g.getD st.left 0 := by
      by_cases h : 128 ≤ c
      · rw [if_pos h, if_pos (by omega)]
      · rw [if_neg h, if_neg (by omega)]
    simp only [tkS, if_neg n1, if_neg n2, if_neg h10, if_neg n3, if_pos hr, e1]
    rfl
  · simp only [tkS, if_neg n1, if_neg n2, if_neg h10, if_neg n3, if_neg hr]
    have e2 : ∀ set, plS set (c :: r) = .inr 11 := fun set => by
      have hs : ¬ (33 ≤ c - sdS c ∧ c - sdS c ≤ 126) := by unfold sdS; split <;> omega
      simp only [plS, if_neg hs]
    rw [e2]

end Go.Proofs.YtildhebaikeknaaGreat

/-! Sh17h -/
namespace Go.Proofs.YtildhebaikeknaaGreat
open Go.RowKit
set_option linter.unusedVariables false

/-- ts, and what comes behind q bytes -/
def tkAdd (ts : List (Int × Int)) (q : Nat) : ((List (Int × Int) × Rd) ⊕ (Nat × Int)) → ((List (Int × Int) × Rd) ⊕ (Nat × Int))
  | .inl (l, z) => .inl (ts ++ l, z)
  | .inr (i, e) => .inr (q + i, e)
/-- of the bytes b so many are read: these tokens, this state -/
def Read17 (b : List Int) (q : Nat) (ts : List (Int × Int)) (st : Rd) : Prop := q ≤ b.length ∧ ts.length ≤ q ∧ tkF b.length rd0 b = tkAdd ts q (tkF (b.length - q) st (b.drop q))
theorem rd17_nil (b : List Int) : Read17 b 0 [] rd0 := ⟨Nat.zero_le _, Nat.le_refl _, by
  rw [Nat.sub_zero, List.drop_zero]
  cases tkF b.length rd0 b with
  | inl x => rfl
  | inr x => obtain ⟨i, e⟩ := x; simp [tkAdd]⟩
theorem rd17_step {b : List Int} {q n : Nat} {ts ts' : List (Int × Int)} {st s : Rd} (h : Read17 b q ts st) (hq : q < b.length) (ht : tkS st (b.drop q) = .inl (ts', n, s)) (hl : ts'.length ≤ 1) : Read17 b (q + n) (ts ++ ts') s := by
  obtain ⟨h1, h2, h3⟩ := h
  have hn := tk_ok ht
  rw [List.length_drop] at hn
  refine ⟨by omega, by rw [List.length_append]; omega, ?_⟩
  rw [h3, show b.length - q = (b.length - q - 1) + 1 by omega, tkF_step (by intro h; have := congrArg List.length h; simp at this; omega), ht]
  simp only
  rw [List.drop_drop, tkF_fuel (b.length - q - 1) (b.length - (q + n)) s (b.drop (q + n)) (by rw [List.length_drop]; omega) (by rw [List.length_drop]; omega)]
  cases tkF (b.length - (q + n)) s (b.drop (q + n)) with
  | inl x => obtain ⟨l, z⟩ := x; simp [tkAdd]
  | inr x => obtain ⟨i, e⟩ := x; simp [tkAdd]; omega
theorem rd17_bad {b : List Int} {q : Nat} {ts : List (Int × Int)} {st : Rd} {x : Int} (h : Read17 b q ts st) (hq : q < b.length) (ht : tkS st (b.drop q) = .inr x) : tokS b = .inr (q, x) := by
  obtain ⟨h1, h2, h3⟩ := h
  unfold tokS
  rw [h3, show b.length - q = (b.length - q - 1) + 1 by omega, tkF_step (by intro h; have := congrArg List.length h; simp at this; omega), ht]
  simp [tkAdd]
theorem rd17_end {b : List Int} {ts : List (Int × Int)} {st : Rd} (h : Read17 b b.length ts st) : tokS b = .inl ts := by
  obtain ⟨h1, h2, h3⟩ := h
  unfold tokS
  rw [h3, List.drop_length, tkF_nil]
  simp [tkAdd]
end Go.Proofs.YtildhebaikeknaaGreat

/-! Sh17i -/
namespace Go.Proofs.YtildhebaikeknaaGreat
open Go.RowKit
set_option linter.unusedVariables false

end Go.Proofs.YtildhebaikeknaaGreat
