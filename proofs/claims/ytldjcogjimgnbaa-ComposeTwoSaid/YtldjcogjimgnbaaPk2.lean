/- Several texts in one: Sg, Tabs6, KeepG, ApiRg, RefRng1, RngFlat, Num, Ucd1, RefSc, Ref6a, Res6, Later, Ucd2, Ix. -/
import Derived.Test.YtldjcogjimgnbaaPk1
import Derived.Great.Walk
import Derived.BigQuiet
/-! Sg -/
namespace Go.Proofs.Ytldjcogjimgnbaa
open Go.RowKit

def noRg : Rg := ⟨0, 0, 0⟩
/-- The value v is a slice that holds the ranges l. -/
def Sg (w : World) (v : Value) (l : List Rg) : Prop :=
  ∃ a cap, v = .slice a l.length cap ∧ l.length ≤ cap ∧ cap ≤ maxLen ∧
    (cap = 0 ∨ ∃ b off, a = some ⟨b, off, none⟩ ∧ (0 < l.length → b < w.heap.size) ∧ ∀ i, i < l.length →
      w.cell? ⟨b, off + i * 3, none⟩ = some (.int .i64 (l.getD i noRg).f) ∧ w.cell? ⟨b, off + i * 3 + 1, none⟩ = some (.int .i64 (l.getD i noRg).t) ∧ w.cell? ⟨b, off + i * 3 + 2, none⟩ = some (.int .i64 (l.getD i noRg).v))
theorem Sg.below {w w' : World} {v : Value} {l : List Rg} (h : Sg w v l) (hb : Below w.heap.size w w') : Sg w' v l := by
  obtain ⟨a, cap, hv, hl, hm, h⟩ := h
  refine ⟨a, cap, hv, hl, hm, ?_⟩
  rcases h with h | ⟨b, off, ha, hbb, hc⟩
  · exact .inl h
  · refine .inr ⟨b, off, ha, fun h0 => Nat.lt_of_lt_of_le (hbb h0) hb.size, fun i hi => ?_⟩
    obtain ⟨h1, h2, h3⟩ := hc i hi
    have hlt := hbb (by omega)
    exact ⟨(hb.cell (p := ⟨b, off + i * 3, none⟩) hlt).trans h1, (hb.cell (p := ⟨b, off + i * 3 + 1, none⟩) hlt).trans h2, (hb.cell (p := ⟨b, off + i * 3 + 2, none⟩) hlt).trans h3⟩
theorem Sg.drewN {w : World} {v : Value} {l : List Rg} (h : Sg w v l) (n : Nat) : Sg (w.drewN n) v l := h
theorem Sg.form {w : World} {v : Value} {l : List Rg} (h : Sg w v l) : ∃ a c, v = .slice a l.length c := by
  obtain ⟨a, c, rfl, -, -, -⟩ := h
  exact ⟨a, c, rfl⟩
theorem Sg.len {w : World} {v : Value} {l : List Rg} (h : Sg w v l) : l.length ≤ 9223372036854775807 := by
  obtain ⟨a, cap, _, hl, hm, _⟩ := h
  unfold maxLen at hm
  omega
/-- told by its place: the first that has c -/
theorem lookS_drop : ∀ {l : List Rg} {k : Nat} {c : Int}, k ≤ l.length → (∀ i, i < k → ¬ ((l.getD i noRg).f ≤ c ∧ c ≤ (l.getD i noRg).t)) → lookS l c = lookS (l.drop k) c
  | _, 0, _, _, _ => rfl
  | [], k + 1, _, h, _ => by simp at h
  | r :: l, k + 1, c, h, ha => by
    have h0 := ha 0 (by omega)
    rw [lookS, if_neg (by simpa using h0), List.drop_succ_cons]
    exact lookS_drop (by simpa using h) fun i hi => by simpa using ha (i + 1) (by omega)
theorem lookS_hit {l : List Rg} {k : Nat} {c : Int} (h : k < l.length) (ha : ∀ i, i < k → ¬ ((l.getD i noRg).f ≤ c ∧ c ≤ (l.getD i noRg).t)) (hk : (l.getD k noRg).f ≤ c ∧ c ≤ (l.getD k noRg).t) : lookS l c = (l.getD k noRg).v := by
  rw [lookS_drop (by omega) ha, List.drop_eq_getElem_cons h, lookS]
  have e : l.getD k noRg = l[k] := by rw [List.getD_eq_getElem?_getD, List.getElem?_eq_getElem h]; rfl
  rw [e] at hk ⊢
  rw [if_pos hk]
theorem lookS_none {l : List Rg} {c : Int} (ha : ∀ i, i < l.length → ¬ ((l.getD i noRg).f ≤ c ∧ c ≤ (l.getD i noRg).t)) : lookS l c = 0 := by
  rw [lookS_drop (Nat.le_refl _) ha, List.drop_length]
  rfl
end Go.Proofs.Ytldjcogjimgnbaa

/-! Tabs6 -/
namespace Go.Proofs.Ytldjcogjimgnbaa
open Go.RowKit

def tabClasses : List Rg := [⟨768, 788, 230⟩, ⟨789, 789, 232⟩, ⟨790, 793, 220⟩, ⟨795, 795, 216⟩, ⟨796, 800, 220⟩, ⟨801, 802, 202⟩, ⟨803, 806, 220⟩, ⟨807, 808, 202⟩, ⟨809, 819, 220⟩, ⟨820, 824, 1⟩, ⟨825, 828, 220⟩, ⟨829, 836, 230⟩, ⟨837, 837, 240⟩, ⟨838, 838, 230⟩, ⟨839, 841, 220⟩, ⟨1456, 1456, 10⟩, ⟨1457, 1457, 11⟩, ⟨1460, 1460, 14⟩, ⟨1468, 1468, 21⟩, ⟨1473, 1473, 24⟩, ⟨1474, 1474, 25⟩, ⟨2364, 2364, 7⟩, ⟨2381, 2381, 9⟩, ⟨8400, 8401, 230⟩, ⟨12441, 12442, 8⟩, ⟨65056, 65059, 230⟩]
def tabAssigned : List Rg := [⟨0, 544, 1⟩, ⟨546, 563, 1⟩, ⟨592, 685, 1⟩, ⟨688, 750, 1⟩, ⟨768, 847, 1⟩, ⟨864, 879, 1⟩, ⟨884, 885, 1⟩, ⟨890, 890, 1⟩, ⟨894, 894, 1⟩, ⟨900, 906, 1⟩, ⟨908, 908, 1⟩, ⟨910, 929, 1⟩, ⟨931, 974, 1⟩, ⟨976, 1014, 1⟩, ⟨1024, 1158, 1⟩, ⟨1160, 1230, 1⟩, ⟨1425, 1441, 1⟩, ⟨1443, 1465, 1⟩, ⟨1467, 1476, 1⟩, ⟨1488, 1514, 1⟩, ⟨1757, 1757, 1⟩, ⟨1807, 1807, 1⟩, ⟨2305, 2307, 1⟩, ⟨2309, 2361, 1⟩, ⟨2364, 2381, 1⟩, ⟨2392, 2416, 1⟩, ⟨4352, 4441, 1⟩, ⟨4447, 4514, 1⟩, ⟨4520, 4601, 1⟩, ⟨5760, 5788, 1⟩, ⟨6144, 6158, 1⟩, ⟨7680, 7835, 1⟩, ⟨7840, 7929, 1⟩, ⟨8175, 8175, 1⟩, ⟨8192, 8274, 1⟩, ⟨8287, 8291, 1⟩, ⟨8298, 8305, 1⟩, ⟨8400, 8426, 1⟩, ⟨8448, 8506, 1⟩, ⟨8531, 8579, 1⟩, ⟨9312, 9470, 1⟩, ⟨12288, 12351, 1⟩, ⟨12353, 12438, 1⟩, ⟨12441, 12543, 1⟩, ⟨19968, 40869, 1⟩, ⟨44032, 55203, 1⟩, ⟨57344, 63743, 1⟩, ⟨64256, 64262, 1⟩, ⟨64285, 64310, 1⟩, ⟨65024, 65039, 1⟩, ⟨65056, 65059, 1⟩, ⟨65279, 65279, 1⟩, ⟨65281, 65470, 1⟩, ⟨65529, 65533, 1⟩, ⟨66304, 66334, 1⟩, ⟨119155, 119162, 1⟩, ⟨917505, 917505, 1⟩, ⟨917536, 917631, 1⟩, ⟨983040, 1048573, 1⟩, ⟨1048576, 1114109, 1⟩]
def tabNothing : List Rg := [⟨0, 8, 1⟩, ⟨14, 31, 1⟩, ⟨127, 132, 1⟩, ⟨134, 159, 1⟩, ⟨173, 173, 1⟩, ⟨847, 847, 1⟩, ⟨1757, 1757, 1⟩, ⟨1807, 1807, 1⟩, ⟨6150, 6150, 1⟩, ⟨6155, 6158, 1⟩, ⟨8203, 8207, 1⟩, ⟨8234, 8238, 1⟩, ⟨8288, 8291, 1⟩, ⟨8298, 8303, 1⟩, ⟨65024, 65039, 1⟩, ⟨65279, 65279, 1⟩, ⟨65529, 65532, 1⟩, ⟨119155, 119162, 1⟩, ⟨917505, 917505, 1⟩, ⟨917536, 917631, 1⟩]
def tabSpaces : List Rg := [⟨9, 13, 1⟩, ⟨133, 133, 1⟩, ⟨160, 160, 1⟩, ⟨5760, 5760, 1⟩, ⟨8192, 8202, 1⟩, ⟨8232, 8233, 1⟩, ⟨8239, 8239, 1⟩, ⟨8287, 8287, 1⟩, ⟨12288, 12288, 1⟩]
def tabProhibited : List Rg := [⟨832, 833, 1⟩, ⟨57344, 63743, 1⟩, ⟨65533, 65533, 1⟩, ⟨983040, 1048573, 1⟩, ⟨1048576, 1114109, 1⟩]
end Go.Proofs.Ytldjcogjimgnbaa

/-! KeepG -/
namespace Go.Proofs.Ytldjcogjimgnbaa
open Go.RowKit

def eqL (xs ys : List Int) : Bool := decide (xs = ys)
theorem eqL_iff {xs ys : List Int} : eqL xs ys = true ↔ xs = ys := by simp [eqL]
theorem eqL_self (xs : List Int) : eqL xs xs = true := eqL_iff.2 rfl

theorem ext_getD {xs ys : List Int} (hl : xs.length = ys.length) (h : ∀ i, i < xs.length → xs.getD i 0 = ys.getD i 0) : xs = ys := by
  apply List.ext_getElem hl
  intro i h1 h2
  have := h i h1
  simpa [List.getD_eq_getElem?_getD, List.getElem?_eq_getElem h1, List.getElem?_eq_getElem h2] using this

theorem Sl.form {k : IntKind} {w : World} {v : Value} {xs : List Int} (h : Sl k w v xs) : ∃ a c, v = .slice a xs.length c := by
  obtain ⟨a, c, rfl, -, -, -⟩ := h
  exact ⟨a, c, rfl⟩

theorem ret_bool {a b : Bool} (h : a = b) : Ending.returned (.bool a) = .returned (.bool b) := by rw [h]

theorem quiet_at {P : Program} {f : FuncId} {args : Array Value} {w : World} {n m : Nat} {v : Value}
    (h : Calls P f args (w.drewN (n + m)) fun e w' => e = .returned v ∧ ∃ k, w' = (w.drewN (n + m)).drewN k) : Calls P f args (w.drewN (n + m)) fun e w'' => e = .returned v ∧ ∃ k, w'' = w.drewN (n + k) :=
  h.mono fun _ _ ⟨he, k, hm⟩ => ⟨he, m + k, by rw [hm, World.drewN_drewN, Nat.add_assoc]⟩

theorem quiet_same {P : Program} {f : FuncId} {args : Array Value} {w : World} {n m : Nat} {v : Value}
    (h : Calls P f args (w.drewN (n + m)) fun e w' => e = .returned v ∧ w.drewN (n + m) = w') : Calls P f args (w.drewN (n + m)) fun e w'' => e = .returned v ∧ ∃ k, w'' = w.drewN (n + k) :=
  h.mono fun _ _ ⟨he, hm⟩ => ⟨he, m, hm.symm⟩

theorem quiet_same0 {P : Program} {f : FuncId} {args : Array Value} {w : World} {n : Nat} {v : Value}
    (h : Calls P f args (w.drewN n) fun e w' => e = .returned v ∧ w.drewN n = w') : Calls P f args (w.drewN n) fun e w'' => e = .returned v ∧ ∃ k, w'' = w.drewN k :=
  h.mono fun _ _ ⟨he, hm⟩ => ⟨he, n, hm.symm⟩
theorem quiet_at0 {P : Program} {f : FuncId} {args : Array Value} {w : World} {n : Nat} {v : Value}
    (h : Calls P f args (w.drewN n) fun e w' => e = .returned v ∧ ∃ k, w' = (w.drewN n).drewN k) : Calls P f args (w.drewN n) fun e w'' => e = .returned v ∧ ∃ k, w'' = w.drewN k :=
  h.mono fun _ _ ⟨he, k, hm⟩ => ⟨he, n + k, by rw [hm, World.drewN_drewN]⟩

end Go.Proofs.Ytldjcogjimgnbaa

/-! ApiRg -/
namespace Go.Proofs.Ytldjcogjimgnbaa
open Go.RowKit
open Go.Great (wp_anyFrame)

/-- a block laid as the cells of ranges reads as these ranges -/
theorem sg_cells {w : World} {l : List Rg} {e : TypeId} {n k : Nat} {cs : Array Value} (hn : n = w.heap.size) (hk : k = l.length) (hc : cs.toList = l.flatMap fun r => [.int .i64 r.f, .int .i64 r.t, .int .i64 r.v]) (hm : l.length ≤ 1000000) :
    Sg (w.alloc (.cells cs e)) (.slice (some ⟨n, 0, none⟩) k k) l := by
  subst hn hk
  refine ⟨_, l.length, rfl, Nat.le_refl _, by unfold maxLen; omega, .inr ⟨w.heap.size, 0, rfl, fun _ => by simp, fun i hi => ?_⟩⟩
  have key : ∀ (l : List Rg) (i : Nat), i < l.length → ∀ j, j < 3 → (l.flatMap fun r : Rg => [Value.int .i64 r.f, .int .i64 r.t, .int .i64 r.v])[i * 3 + j]? = [Value.int .i64 (l.getD i noRg).f, .int .i64 (l.getD i noRg).t, .int .i64 (l.getD i noRg).v][j]? := fun l => by
    induction l with
    | nil => intro i hi; simp at hi
    | cons r l ih =>
      intro i hi j hj
      match i with
      | 0 =>
        match j, hj with
        | 0, _ => rfl
        | 1, _ => rfl
        | 2, _ => rfl
      | i + 1 =>
        have := ih i (by simpa using hi) j hj
        rw [List.flatMap_cons, show (i + 1) * 3 + j = i * 3 + j + 1 + 1 + 1 by omega]
        simpa using this
  have hat : ∀ j, (w.alloc (.cells cs e)).cell? ⟨w.heap.size, j, none⟩ = cs.toList[j]? := fun j => by
    rw [cell_of_row _ w.heap.size j cs e (0, 0) (heap_alloc_new w _)]
    simp
  have k0 := key l i hi 0 (by omega)
  have k1 := key l i hi 1 (by omega)
  have k2 := key l i hi 2 (by omega)
  simp only [Nat.zero_add]
  refine ⟨?_, ?_, ?_⟩
  · rw [hat, hc]; exact k0
  · rw [hat, hc]; exact k1
  · rw [hat, hc]; exact k2

/-- a table's numbers as the library's law on such literals takes them -/
def tri (l : List Rg) : List Lib.Rg := l.map fun r => (r.f.toNat, r.t.toNat, r.v.toNat)

theorem tri_cells : ∀ {l : List Rg}, (l.all fun r => decide (0 ≤ r.f) && (decide (0 ≤ r.t) && decide (0 ≤ r.v))) = true → (Lib.rgCells .i64 (tri l).toArray).toList = l.flatMap fun r => [.int .i64 r.f, .int .i64 r.t, .int .i64 r.v]
  | [], _ => rfl
  | r :: l, h => by
    simp only [List.all_cons, Bool.and_eq_true, decide_eq_true_eq] at h
    have ih := tri_cells (l := l) h.2
    simp only [Lib.rgCells, tri, List.map_cons, List.flatMap_cons, Lib.cells3, Int.toNat_of_nonneg h.1.1, Int.toNat_of_nonneg h.1.2.1, Int.toNat_of_nonneg h.1.2.2] at ih ⊢
    rw [ih]

theorem apiClasses (w : World) : Calls Try.prog 24 #[] w fun e w' => ∃ v, e = .returned v ∧ Sg w' v tabClasses ∧ Below w.heap.size w w' := by
  refine calls_of_wp Try.func24 rfl ?_
  refine wp_anyFrame 28 (by as_aux_lemma => kernel_rfl) rfl fun a0 hs0 hd0 => ?_
  apply wp_seq_k; intro K0 hK0
  apply wp_region_lit
  refine Go.Great.wpList_readTo rfl (some 0) rfl (.slice none 0 0) rfl ?_
  apply wpList_nil
  refine hK0 _ _ ?_
  clear hK0 K0
  refine wp_anyFrame 28 (by simp only [Act.size_put, hs0]) (by simp only [Act.defers_put', hd0]) fun a1 hs1 hd1 => ?_
  apply wp_seq_k; intro K1 hK1
  apply wp_region_lit
  refine Go.Great.wpList_splitAt 26 (Go.Great.rgOps 86 "tables.go:80" .i64 1 (tri tabClasses)) (by as_aux_lemma => kernel_rfl) ?_
  refine Go.Great.wpList_rgs 86 "tables.go:80" .i64 (fun _ _ _ => by as_aux_lemma => kernel_rfl) _ 1 _ (by rw [hs1]; exact Nat.le_of_ble_eq_true (by as_aux_lemma => kernel_rfl)) fun b hb hbd hev _ => ?_
  refine Go.Great.wpList_buildRgs rfl 41 86 _ .i64 (tri tabClasses).toArray rfl 1 w.heap.size rfl (some 27) rfl (by as_aux_lemma => kernel_rfl) (by as_aux_lemma => kernel_rfl) (by as_aux_lemma => kernel_rfl) (by decide) (by decide) (by as_aux_lemma => kernel_rfl) hev ?_
  refine Go.Great.wpList_readTo rfl (some 0) rfl (.slice (some ⟨w.heap.size, 0, none⟩) 26 26) ?_ ?_
  · have := Act.eval_put_same b 27 (.slice (some ⟨w.heap.size, 0, none⟩) 26 26) (by rw [hb, hs1]; omega)
    exact congrArg (fun v => Result.ok (Next.value v) _) this
  apply wpList_nil
  refine hK1 _ _ ?_
  refine wp_ret (bodyPost_ret (results_tmp rfl _ _ _) (by simp only [Act.defers_put', hbd, hd1]) ⟨_, rfl, ?_, by (repeat (first | exact Below.refl _ _ | exact below_drewN _ | refine Below.drew ?_ | refine Below.alloc ?_ (by simp) _ | refine Below.setCell ?_ (by simp) _ | refine below_drewN' ?_ _))⟩)
  have := Act.eval_put_same (b.put (some 27) (.slice (some ⟨w.heap.size, 0, none⟩) 26 26)) 0 (.slice (some ⟨w.heap.size, 0, none⟩) 26 26) (by rw [Act.size_put, hb, hs1]; omega)
  rw [show ∀ a : Act, a.tmps.getD 0 undef = a.eval (.tmp 0) from fun _ => rfl]
  exact (congrArg (fun v => Sg _ v tabClasses) this).mpr (sg_cells rfl (by as_aux_lemma => kernel_rfl) (tri_cells (by decide)) (by decide))

end Go.Proofs.Ytldjcogjimgnbaa

/-! RefRng1 -/
namespace Go.Proofs.Ytldjcogjimgnbaa
open Go.RowKit

theorem ret_i64' {a b : Int} (h : a = b) : Ending.returned (.int .i64 a) = .returned (.int .i64 b) := by rw [h]

theorem refLook (v : Value) (l : List Rg) (c : Int) (w : World) (h : Sg w v l) :
    Calls Try.prog 49 #[v, .int .i64 c] w fun e w' => e = .returned (.int .i64 (lookS l c)) ∧ w = w' := by
  have ml := h.len
  obtain ⟨a1, cap1, rfl, q1, -, h1⟩ := h
  obtain ⟨n, hn⟩ : ∃ n, n = l.length := ⟨_, rfl⟩
  have hH : ∀ k, k < n → (∀ i, i < k → ¬ ((l.getD i noRg).f ≤ c ∧ c ≤ (l.getD i noRg).t)) → ((l.getD k noRg).f ≤ c ∧ c ≤ (l.getD k noRg).t) → lookS l c = (l.getD k noRg).v := fun k hk ha hh => lookS_hit (by omega) ha hh
  have hN : (∀ i, i < n → ¬ ((l.getD i noRg).f ≤ c ∧ c ≤ (l.getD i noRg).t)) → lookS l c = 0 := fun ha => lookS_none (by rw [← hn]; exact ha)
  have HH := hid hH
  have HN := hid hN
  have H1 := hid h1
  rw [← hn] at ml q1 H1 ⊢
  clear hH hN h1 hn
  go_enter Try.func49, Try.ntmps49
  go_wp2
  go_loopw [5] (fun iv wr => ∃ k : Nat, k ≤ n ∧ iv = .int .i64 k ∧ w = wr ∧ Hid (∀ i, i < k → ¬ ((l.getD i noRg).f ≤ c ∧ c ≤ (l.getD i noRg).t))) (fun iv _ => n - (intOf iv).toNat)
  case atStart => exact ⟨0, by omega, rfl, rfl, fun i hi => absurd hi (by omega)⟩
  case round =>
    obtain ⟨k, hk, rfl, rfl, hall⟩ := hrel
    by_cases hlt : k < n
    · rcases H1.out with hc | ⟨b1, o1, rfl, -, c1⟩
      · omega
      obtain ⟨d1, d2, d3⟩ := c1 k hlt
      have hh := hid (HH.out k hlt hall.out)
      have hnx : ¬ ((l.getD k noRg).f ≤ c ∧ c ≤ (l.getD k noRg).t) → ∀ i, i < k + 1 → ¬ ((l.getD i noRg).f ≤ c ∧ c ≤ (l.getD i noRg).t) := fun he i hi => by
        rcases Nat.lt_or_ge i k with h | h
        · exact hall.out i h
        · obtain rfl : i = k := by omega
          exact he
      have HNX := hid hnx
      clear hnx c1
      generalize l.getD k noRg = r at d1 d2 d3 hh HNX
      obtain ⟨rf, rt, rv⟩ := r
      simp only at d1 d2 d3 hh HNX
      by_cases hf : rf ≤ c
      · by_cases ht : c ≤ rt
        · have hr := hid (hh.out ⟨hf, ht⟩)
          go_wp2
          go_ret
          exact ⟨ret_i64' hr.out.symm, rfl⟩
        · have hr := hid (HNX.out (fun h => ht h.2))
          go_wp2
          go_roundw
          case rel => exact ⟨k + 1, by omega, by go_num, by trivial, hr.out⟩
          case measure => simp [intOf]; omega
      · have hr := hid (HNX.out (fun h => hf h.1))
        go_wp2
        go_roundw
        case rel => exact ⟨k + 1, by omega, by go_num, by trivial, hr.out⟩
        case measure => simp [intOf]; omega
    · obtain rfl : k = n := by omega
      have hr := hid (HN.out hall.out)
      go_wp2
      go_ret
      exact ⟨ret_i64' hr.out.symm, rfl⟩
end Go.Proofs.Ytldjcogjimgnbaa

/-! RngFlat -/
namespace Go.Proofs.Ytldjcogjimgnbaa
open Go.RowKit

set_option maxHeartbeats 1000000 in
theorem rngFlat (v : Value) (l : List Rg) (c : Int) (w : World) (h : Sg w v l) :
    Calls Try.prog 43 #[v, .int .i64 c] w fun e w' => e = .returned (.int .i64 (lookS l c)) ∧ Below w.heap.size w w' := by
  have ml := h.len
  obtain ⟨a1, cap1, rfl, q1, -, h1⟩ := h
  obtain ⟨n, hn⟩ : ∃ n, n = l.length := ⟨_, rfl⟩
  have hH : ∀ k, k < n → (∀ i, i < k → ¬ ((l.getD i noRg).f ≤ c ∧ c ≤ (l.getD i noRg).t)) → ((l.getD k noRg).f ≤ c ∧ c ≤ (l.getD k noRg).t) → lookS l c = (l.getD k noRg).v := fun k hk ha hh => lookS_hit (by omega) ha hh
  have hN : (∀ i, i < n → ¬ ((l.getD i noRg).f ≤ c ∧ c ≤ (l.getD i noRg).t)) → lookS l c = 0 := fun ha => lookS_none (by rw [← hn]; exact ha)
  have HH := hid hH
  have HN := hid hN
  have H1 := hid h1
  rw [← hn] at ml q1 H1 ⊢
  clear hH hN h1 hn
  go_enter Try.func43, Try.ntmps43
  go_wp2
  go_loopw [9] (fun iv wr => ∃ k : Nat, k ≤ n ∧ iv = .int .i64 k ∧ Hid (Below w.heap.size w wr) ∧ Hid (∀ i, i < k → ¬ ((l.getD i noRg).f ≤ c ∧ c ≤ (l.getD i noRg).t))) (fun iv _ => n - (intOf iv).toNat)
  case atStart => exact ⟨0, by omega, rfl, Below.refl _ _, fun i hi => absurd hi (by omega)⟩
  case round =>
    obtain ⟨k, hk, rfl, hbel, hall⟩ := hrel
    by_cases hlt : k < n
    · rcases H1.out with hc | ⟨b1, o1, rfl, hb1, c1⟩
      · omega
      have hb1' := hb1 (by omega)
      obtain ⟨d1, d2, d3⟩ := c1 k hlt
      have d1 := (hbel.out.cell (p := ⟨b1, o1 + k * 3, none⟩) hb1').trans d1
      have d2 := (hbel.out.cell (p := ⟨b1, o1 + k * 3 + 1, none⟩) hb1').trans d2
      have d3 := (hbel.out.cell (p := ⟨b1, o1 + k * 3 + 2, none⟩) hb1').trans d3
      have hh := hid (HH.out k hlt hall.out)
      have hnx : ¬ ((l.getD k noRg).f ≤ c ∧ c ≤ (l.getD k noRg).t) → ∀ i, i < k + 1 → ¬ ((l.getD i noRg).f ≤ c ∧ c ≤ (l.getD i noRg).t) := fun he i hi => by
        rcases Nat.lt_or_ge i k with h | h
        · exact hall.out i h
        · obtain rfl : i = k := by omega
          exact he
      have HNX := hid hnx
      clear hnx c1
      generalize l.getD k noRg = r at d1 d2 d3 hh HNX
      obtain ⟨rf, rt, rv⟩ := r
      simp only at d1 d2 d3 hh HNX
      have HBW : Hid (Below w.heap.size w (wr.alloc (.cells #[.int .i64 rf, .int .i64 rt, .int .i64 rv] 86))) := hid (hbel.out.alloc hbel.out.size _)
      by_cases hf : rf ≤ c
      · by_cases ht : c ≤ rt
        · have hr := hid (hh.out ⟨hf, ht⟩)
          go_wp2
          go_ret
          exact ⟨ret_i64' hr.out.symm, HBW.out⟩
        · have hr := hid (HNX.out (fun h => ht h.2))
          go_wp2
          go_roundw
          case rel => exact ⟨k + 1, by omega, by go_num, HBW.out, hr.out⟩
          case measure => simp [intOf]; omega
      · have hr := hid (HNX.out (fun h => hf h.1))
        go_wp2
        go_roundw
        case rel => exact ⟨k + 1, by omega, by go_num, HBW.out, hr.out⟩
        case measure => simp [intOf]; omega
    · obtain rfl : k = n := by omega
      have hr := hid (HN.out hall.out)
      go_wp2
      go_ret
      exact ⟨ret_i64' hr.out.symm, hbel.out⟩
end Go.Proofs.Ytldjcogjimgnbaa

/-! Num -/
namespace Go.Proofs.Ytldjcogjimgnbaa

def inI (c : Int) : Bool := decide (-9223372036854775808 ≤ c ∧ c ≤ 9223372036854775807)
theorem inI_of {c : Int} (h : -9223372036854775808 ≤ c ∧ c ≤ 9223372036854775807) : inI c = true := decide_eq_true h
/-- is it a scalar? -/
def scalarB (c : Int) : Bool := decide (0 ≤ c ∧ c ≤ 1114111 ∧ (c < 55296 ∨ 57343 < c))
theorem scalar_t {c : Int} (h : 0 ≤ c ∧ c ≤ 1114111 ∧ (c < 55296 ∨ 57343 < c)) : scalarB c = true := decide_eq_true h
theorem scalar_f {c : Int} (h : ¬ (0 ≤ c ∧ c ≤ 1114111 ∧ (c < 55296 ∨ 57343 < c))) : scalarB c = false := decide_eq_false h
theorem scalar_inI {c : Int} (h : scalarB c = true) : inI c = true := by
  unfold scalarB at h
  unfold inI
  rw [decide_eq_true_iff]
  have h := of_decide_eq_true h
  omega
def inB (c lo hi : Int) : Bool := decide (lo ≤ c ∧ c ≤ hi)
end Go.Proofs.Ytldjcogjimgnbaa

/-! Ucd1 -/
namespace Go.Proofs.Ytldjcogjimgnbaa
open Go.RowKit

def classS (c : Int) : Int := if scalarB c then lookS tabClasses c else 0
def hasS (l : List Rg) (c : Int) : Bool := scalarB c && lookS l c != 0
theorem classS_t {c : Int} (h : scalarB c = true) : lookS tabClasses c = classS c := by unfold classS; rw [h]; rfl
theorem classS_f {c : Int} (h : scalarB c = false) : 0 = classS c := by unfold classS; rw [h]; rfl
theorem hasS_t {l : List Rg} {c : Int} (h : scalarB c = true) : (lookS l c != 0) = hasS l c := by unfold hasS; rw [h]; rfl
theorem hasS_f {l : List Rg} {c : Int} (h : scalarB c = false) : false = hasS l c := by unfold hasS; rw [h]; rfl

set_option maxHeartbeats 1000000 in
theorem ucdScalar (c : Int) (w : World) : Calls Try.prog 42 #[.int .i64 c] w fun e w' => e = .returned (.bool (scalarB c)) ∧ w = w' := by
  by_cases h0 : 0 ≤ c
  · by_cases h1 : c ≤ 1114111
    · by_cases h2 : c < 55296
      · have HR := hid (scalar_t ⟨h0, h1, .inl h2⟩)
        go_enter Try.func42, Try.ntmps42
        go_wp2
        go_ret
        exact ⟨by rw [HR.out]; rfl, rfl⟩
      · by_cases h3 : 57343 < c
        · have HR := hid (scalar_t ⟨h0, h1, .inr h3⟩)
          go_enter Try.func42, Try.ntmps42
          go_wp2
          go_ret
          exact ⟨by rw [HR.out]; rfl, rfl⟩
        · have HR := hid (scalar_f (c := c) (fun h => by omega))
          go_enter Try.func42, Try.ntmps42
          go_wp2
          go_ret
          exact ⟨by rw [HR.out]; rfl, rfl⟩
    · have HR := hid (scalar_f (c := c) (fun h => by omega))
      go_enter Try.func42, Try.ntmps42
      go_wp2
      go_ret
      exact ⟨by rw [HR.out]; rfl, rfl⟩
  · have HR := hid (scalar_f (c := c) (fun h => by omega))
    go_enter Try.func42, Try.ntmps42
    go_wp2
    go_ret
    exact ⟨by rw [HR.out]; rfl, rfl⟩

set_option maxHeartbeats 1000000 in
theorem ucdClass (c : Int) (w : World) : Calls Try.prog 19 #[.int .i64 c] w fun e w' => e = .returned (.int .i64 (classS c)) ∧ Below w.heap.size w w' := by
  obtain ⟨b, hb⟩ : ∃ b, b = scalarB c := ⟨_, rfl⟩
  cases b with
  | false =>
    have HR := hid (classS_f hb.symm)
    have HB := hid hb
    clear hb
    go_enter Try.func19, Try.ntmps19
    go_wp2_with (go_at_call 42; refine (ucdScalar c _).mono ?_; rw [← HB.out]; rintro e w1 ⟨rfl, rfl⟩)
    go_ret
    exact ⟨by rw [← HR.out]; rfl, Below.refl _ _⟩
  | true =>
    have HR := hid (classS_t hb.symm)
    have HB := hid hb
    clear hb
    go_enter Try.func19, Try.ntmps19
    go_wp2_with (first
      | (go_at_call 42; refine (ucdScalar c _).mono ?_; rw [← HB.out]; rintro e w1 ⟨rfl, rfl⟩)
      | (go_at_call 24; refine (apiClasses w).mono ?_; rintro e w1 ⟨v1, rfl, hs1, hb1⟩; have HS1 := hid hs1; have HB1 := hid hb1; clear hs1 hb1)
      | (go_at_call 43; refine (rngFlat v1 tabClasses c w1 HS1.out).mono ?_; rw [HR.out]; rintro e w2 ⟨rfl, hb2⟩; have HB2 := hid hb2; clear hb2))
    go_ret
    exact ⟨rfl, HB1.out.trans (HB2.out.mono HB1.out.size)⟩

end Go.Proofs.Ytldjcogjimgnbaa

/-! RefSc -/
namespace Go.Proofs.Ytldjcogjimgnbaa
open Go.RowKit

theorem refIn6 (c lo hi : Int) (w : World) : Calls Try.prog 46 #[.int .i64 c, .int .i64 lo, .int .i64 hi] w fun e w' => e = .returned (.bool (inB c lo hi)) ∧ w = w' := by
  by_cases h0 : lo ≤ c
  · by_cases h1 : c ≤ hi
    · have HR := hid (show inB c lo hi = true from decide_eq_true ⟨h0, h1⟩)
      go_enter Try.func46, Try.ntmps46
      go_wp2
      go_ret
      exact ⟨by rw [HR.out]; rfl, rfl⟩
    · have HR := hid (show inB c lo hi = false from decide_eq_false (fun h => h1 h.2))
      go_enter Try.func46, Try.ntmps46
      go_wp2
      go_ret
      exact ⟨by rw [HR.out]; rfl, rfl⟩
  · have HR := hid (show inB c lo hi = false from decide_eq_false (fun h => h0 h.1))
    go_enter Try.func46, Try.ntmps46
    go_wp2
    go_ret
    exact ⟨by rw [HR.out]; rfl, rfl⟩

end Go.Proofs.Ytldjcogjimgnbaa

/-! Ref6a -/
namespace Go.Proofs.Ytldjcogjimgnbaa
open Go.RowKit

/-- no table gives a number that is no scalar a value, or any number one below 0 -/
def offT (l : List Rg) : Bool := l.all fun r => decide (0 ≤ r.f ∧ r.t ≤ 1114111 ∧ (r.t < 55296 ∨ 57343 < r.f) ∧ 0 < r.v)
theorem off_all : offT tabClasses = true ∧ offT tabAssigned = true ∧ offT tabNothing = true ∧ offT tabSpaces = true ∧ offT tabProhibited = true := by decide +kernel
theorem off_look {l : List Rg} (h : offT l = true) (c : Int) : lookS l c = 0 ∨ (scalarB c = true ∧ 0 < lookS l c) := by
  by_cases h0 : lookS l c = 0
  · exact .inl h0
  · obtain ⟨r, hr, h1, h2, h3⟩ := lookS_some h0
    have := List.all_eq_true.1 h r hr
    simp only [decide_eq_true_eq] at this
    exact .inr ⟨scalar_t ⟨by omega, by omega, by omega⟩, by rw [h3]; exact this.2.2.2⟩
theorem class_look (c : Int) : lookS tabClasses c = classS c := by
  rcases off_look off_all.1 c with h | h
  · unfold classS
    rw [h]
    split <;> rfl
  · exact classS_t h.1
theorem has_look {l : List Rg} (h : offT l = true) (c : Int) : (scalarB c && decide (0 < lookS l c)) = hasS l c := by
  unfold hasS
  rcases off_look h c with h | h
  · rw [h]; rfl
  · rw [h.1, decide_eq_true h.2]
    have : (lookS l c != 0) = true := by simp only [bne_iff_ne]; omega
    rw [this]

end Go.Proofs.Ytldjcogjimgnbaa

/-! Res6 -/
namespace Go.Proofs.Ytldjcogjimgnbaa
open Go.RowKit

theorem asAddr_ptr6 (P : Program) (w : World) (a : Addr) : (asAddr (.pointer (some a))).run P w = .ok a w := by simp [asAddr]
theorem results_one {P : Program} {fn : Func} {p : Tmp} {ty : TypeId} (h : fn.results = #[.cell p ty]) {tmps : Array Value} {B : Nat} (hp : tmps.getD p undef = .pointer (some ⟨B, 0, none⟩)) {w : World} {y : Value} (hl : (loadVar ty ⟨B, 0, none⟩).run P w = .ok y w) :
    (results fn tmps).run P w = .ok y w := by
  have e : (results fn tmps).run P w = ((asAddr (tmps.getD p undef)).run P w).andThen fun a w₁ => (loadVar ty a).run P w₁ := by
    simp only [results, h]
    simp [Sem.run_bind, Result.andThen]
  rw [e, hp, asAddr_ptr6]
  simp only [Result.andThen]
  rw [hl]
theorem results_two {P : Program} {fn : Func} {p u : Tmp} {ty : TypeId} (h : fn.results = #[.cell p ty, .tmp u]) {tmps : Array Value} {B : Nat} (hp : tmps.getD p undef = .pointer (some ⟨B, 0, none⟩)) {w : World} {y : Value} (hl : (loadVar ty ⟨B, 0, none⟩).run P w = .ok y w) :
    (results fn tmps).run P w = .ok (.tuple #[y, tmps.getD u undef]) w := by
  have e : (results fn tmps).run P w = ((asAddr (tmps.getD p undef)).run P w).andThen fun a w₁ => ((loadVar ty a).run P w₁).andThen fun y w₂ => .ok (.tuple #[y, tmps.getD u undef]) w₂ := by
    simp only [results, h]
    simp [Sem.run_bind, Result.andThen]
  rw [e, hp, asAddr_ptr6]
  simp only [Result.andThen]
  rw [hl]
theorem loadC3 {a b c : Value} {B : Nat} {w : World} (h : Box 69 [a, b, c] B w) : (loadVar 69 ⟨B, 0, none⟩).run Try.prog w = .ok (.agg #[a, b, c]) w := by
  have k0 := h.cell 0
  have k1 := h.cell 1
  have k2 := h.cell 2
  simp only [List.getElem?_cons_zero, List.getElem?_cons_succ] at k0 k1 k2
  simp [go_sem, k0, k1, k2]
theorem loadC2 {a b : Value} {B : Nat} {w : World} (h : Box 76 [a, b] B w) : (loadVar 76 ⟨B, 0, none⟩).run Try.prog w = .ok (.agg #[a, b]) w := by
  have k0 := h.cell 0
  have k1 := h.cell 1
  simp only [List.getElem?_cons_zero, List.getElem?_cons_succ] at k0 k1
  simp [go_sem, k0, k1]
theorem loadMp {a b : Value} {B : Nat} {w : World} (h : Box 84 [a, b] B w) : (loadVar 84 ⟨B, 0, none⟩).run Try.prog w = .ok (.agg #[a, b]) w := by
  have k0 := h.cell 0
  have k1 := h.cell 1
  simp only [List.getElem?_cons_zero, List.getElem?_cons_succ] at k0 k1
  simp [go_sem, k0, k1]
theorem loadT1 {a b : Value} {B : Nat} {w : World} (h : Box 110 [a, b] B w) : (loadVar 110 ⟨B, 0, none⟩).run Try.prog w = .ok (.agg #[a, b]) w := by
  have k0 := h.cell 0
  have k1 := h.cell 1
  simp only [List.getElem?_cons_zero, List.getElem?_cons_succ] at k0 k1
  simp [go_sem, k0, k1]
theorem loadT2 {a b : Value} {B : Nat} {w : World} (h : Box 73 [a, b] B w) : (loadVar 73 ⟨B, 0, none⟩).run Try.prog w = .ok (.agg #[a, b]) w := by
  have k0 := h.cell 0
  have k1 := h.cell 1
  simp only [List.getElem?_cons_zero, List.getElem?_cons_succ] at k0 k1
  simp [go_sem, k0, k1]
theorem loadT3 {a b : Value} {B : Nat} {w : World} (h : Box 117 [a, b] B w) : (loadVar 117 ⟨B, 0, none⟩).run Try.prog w = .ok (.agg #[a, b]) w := by
  have k0 := h.cell 0
  have k1 := h.cell 1
  simp only [List.getElem?_cons_zero, List.getElem?_cons_succ] at k0 k1
  simp [go_sem, k0, k1]
theorem eq_c2 (b c p q : Int) (w : World) : (binOp .eql 76 (.agg #[.int .i64 b, .int .i64 c]) (.agg #[.int .i64 p, .int .i64 q])).run Try.prog w = .ok (.bool (b == p && c == q)) w := by
  have u3 := Try.underlying3
  have a3 := Try.isAgg3
  have z3 := Try.sizeOf3
  rw [run_eql_struct, show (10000 : Nat) = 9999 + 1 from rfl]
  unfold Op.equalIn
  simp only [Sem.run_bind, run_underlying Try.underlying76, Result.andThen_ok]
  go_simp
  rw [show List.range' 0 2 = [0, 1] from rfl]
  simp only [List.forIn_cons, List.forIn_nil]
  go_simp
  by_cases h1 : b = p <;> by_cases h2 : c = q <;> simp [h1, h2, go_sem]
end Go.Proofs.Ytldjcogjimgnbaa

/-! Later -/
namespace Go.Proofs.Ytldjcogjimgnbaa
open Go.RowKit

/-- a world in which all that W holds is as it was -/
structure Later (W : World) where
  w : World
  below : Below W.heap.size W w
instance (W : World) : Nonempty (Later W) := ⟨⟨W, Below.refl _ _⟩⟩
theorem region_later {P : Program} {id : Nat} {Q : Exit → Act → World → Prop} {a : Act} {w : World} {l : List Oper} (hm : P.follows .mixedOrders = true) (hB : Region.lexB .any l.toArray = true)
    (h : wpQuiet P l.toArray (fun w' => ∃ u : Later w, w' = u.w) (fun a' => ∀ w', (∃ u : Later w, w' = u.w) → Q .normal a' w') l a) : (Code.region id l.toArray true).wp P Q a w :=
  wp_region_quiet (C := fun w' => ∃ u : Later w, w' = u.w) hm hB ⟨⟨w.drew, (Below.refl _ _).drew⟩, rfl⟩ (by simpa using h)
theorem later_call {P : Program} {f : FuncId} {args : Array Value} {W : World} {u : Later W} {v : Value} (h : Calls P f args u.w fun e w'' => e = .returned v ∧ Below u.w.heap.size u.w w'') :
    Calls P f args u.w fun e w'' => e = .returned v ∧ ∃ u' : Later W, w'' = u'.w :=
  h.mono fun _ w'' ⟨he, hb⟩ => ⟨he, ⟨w'', u.below.trans (hb.mono u.below.size)⟩, rfl⟩
theorem Later.cell {W : World} (u : Later W) {p : Addr} {v : Value} (h : W.cell? p = some v) : u.w.cell? p = some v := (u.below.cell (World.block_lt_of_cell? W _ h)).trans h
end Go.Proofs.Ytldjcogjimgnbaa

/-! Ucd2 -/
namespace Go.Proofs.Ytldjcogjimgnbaa
open Go.RowKit

/-- the first of a list that has a property, and whether there is one -/
def fndS (p : Rg → Bool) : List Rg → Rg × Bool
  | [] => (noRg, false)
  | r :: l => if p r then (r, true) else fndS p l
theorem fndS_drop {p : Rg → Bool} : ∀ {l : List Rg} {k : Nat}, k ≤ l.length → (∀ i, i < k → p (l.getD i noRg) = false) → fndS p l = fndS p (l.drop k)
  | _, 0, _, _ => rfl
  | [], k + 1, h, _ => by simp at h
  | r :: l, k + 1, h, ha => by
    have h0 := ha 0 (by omega)
    simp only [List.getD_cons_zero] at h0
    rw [fndS, h0, List.drop_succ_cons]
    exact fndS_drop (by simpa using h) fun i hi => by simpa using ha (i + 1) (by omega)
theorem fndS_hit {p : Rg → Bool} {l : List Rg} {k : Nat} (h : k < l.length) (ha : ∀ i, i < k → p (l.getD i noRg) = false) (hk : p (l.getD k noRg) = true) : fndS p l = (l.getD k noRg, true) := by
  rw [fndS_drop (by omega) ha, List.drop_eq_getElem_cons h, fndS]
  have e : l.getD k noRg = l[k] := by rw [List.getD_eq_getElem?_getD, List.getElem?_eq_getElem h]; rfl
  rw [e] at hk ⊢
  rw [hk]
  rfl
theorem fndS_none {p : Rg → Bool} {l : List Rg} (ha : ∀ i, i < l.length → p (l.getD i noRg) = false) : fndS p l = (noRg, false) := by
  rw [fndS_drop (Nat.le_refl _) ha, List.drop_length]
  rfl

theorem box_last (w : World) (A : Obj) (t : TypeId) (cs : List Value) : Box t cs (w.heap.size + 1) ((w.alloc A).alloc (.cells cs.toArray t)) := by
  have := Box.made (w.alloc A) t cs
  simpa using this
theorem Box.three {t : TypeId} {a b c : Value} {B : Nat} {w : World} (h : Box t [a, b, c] B w) (x y z : Value) : Box t [x, y, z] B (((w.setCell ⟨B, 0, none⟩ x).setCell ⟨B, 1, none⟩ y).setCell ⟨B, 2, none⟩ z) :=
  ((h.set 0 x).set 1 y).set 2 z
theorem below_three {base B : Nat} {a b c : Value} {w0 w : World} (h : Below base w0 w) (hB : base ≤ B) : Below base w0 (((w.setCell ⟨B, 0, none⟩ a).setCell ⟨B, 1, none⟩ b).setCell ⟨B, 2, none⟩ c) :=
  ((h.setCell hB _).setCell hB _).setCell hB _
theorem ucdWhole (a b c : Int) (w : World) : Calls Try.prog 80 #[.agg #[.int .i64 a, .int .i64 b, .int .i64 c]] w fun e w' => e = .returned (.int .i64 a) ∧ Below w.heap.size w w' := by
  go_enter Try.func80, Try.ntmps80
  go_wp2_with (fail)
  go_ret
  exact ⟨rfl, by (repeat (first | exact Below.refl _ _ | exact below_drewN _ | refine Below.drew ?_ | refine Below.alloc ?_ (by simp) _ | refine Below.setCell ?_ (by simp) _ | refine below_drewN' ?_ _))⟩
theorem ucdParts (a b c : Int) (w : World) : Calls Try.prog 58 #[.agg #[.int .i64 a, .int .i64 b, .int .i64 c]] w fun e w' => e = .returned (.agg #[.int .i64 b, .int .i64 c]) ∧ Below w.heap.size w w' := by
  go_enter Try.func58, Try.ntmps58
  go_wp2_with (fail)
  refine bodyPost_ret (results_one rfl rfl (loadC2 (box_last _ _ _ _))) rfl ⟨rfl, by (repeat (first | exact Below.refl _ _ | exact below_drewN _ | refine Below.drew ?_ | refine Below.alloc ?_ (by simp) _ | refine Below.setCell ?_ (by simp) _ | refine below_drewN' ?_ _))⟩

set_option maxHeartbeats 2000000 in
theorem ucdFind1 (v : Value) (l : List Rg) (c : Int) (w : World) (h : Sg w v l) :
    Calls Try.prog 78 #[.agg #[v, .func (.func 80) #[] #[]], .int .i64 c] w fun e w' =>
      e = .returned (.tuple #[.agg #[.int .i64 (fndS (fun r => r.f == c) l).1.f, .int .i64 (fndS (fun r => r.f == c) l).1.t, .int .i64 (fndS (fun r => r.f == c) l).1.v], .bool (fndS (fun r => r.f == c) l).2]) ∧ Below w.heap.size w w' := by
  have ml := h.len
  obtain ⟨a1, cap1, rfl, q1, -, h1⟩ := h
  obtain ⟨n, hn⟩ : ∃ n, n = l.length := ⟨_, rfl⟩
  obtain ⟨R, hR⟩ : ∃ R, R = fndS (fun r => r.f == c) l := ⟨_, rfl⟩
  have hH : ∀ k, k < n → (∀ i, i < k → ((l.getD i noRg).f == c) = false) → ((l.getD k noRg).f == c) = true → R = (l.getD k noRg, true) := fun k hk ha hh => hR.trans (fndS_hit (p := fun r => r.f == c) (by omega) ha hh)
  have hN : (∀ i, i < n → ((l.getD i noRg).f == c) = false) → R = (noRg, false) := fun ha => hR.trans (fndS_none (p := fun r => r.f == c) (by rw [← hn]; exact ha))
  rw [← hR]
  have HH := hid hH
  have HN := hid hN
  have H1 := hid h1
  rw [← hn] at ml q1 H1 ⊢
  clear hH hN h1 hn hR
  go_enter Try.func78, Try.ntmps78
  go_wp2_with (fail)
  go_loopw [12] (fun iv wr => ∃ k : Nat, k ≤ n ∧ iv = .int .i64 k ∧ Hid (Box 110 [.slice a1 n cap1, .func (.func 80) #[] #[]] w.heap.size wr) ∧ Hid (Box 69 [.int .i64 0, .int .i64 0, .int .i64 0] (w.heap.size + 1) wr) ∧ Hid (Below w.heap.size w wr) ∧ Hid (∀ i, i < k → ((l.getD i noRg).f == c) = false)) (fun iv _ => n - (intOf iv).toNat)
  case atStart => exact ⟨0, by omega, rfl, (Box.made w 110 _).alloc _, box_last _ _ _ _, by (repeat (first | exact Below.refl _ _ | exact below_drewN _ | refine Below.drew ?_ | refine Below.alloc ?_ (by simp) _ | refine Below.setCell ?_ (by simp) _ | refine below_drewN' ?_ _)), fun i hi => absurd hi (by omega)⟩
  case round =>
    obtain ⟨k, hk, rfl, hbt, hbr, hbel, hall⟩ := hrel
    have hsz := hbr.out.lt
    by_cases hlt : k < n
    · rcases H1.out with hc | ⟨b1, o1, rfl, hb1, c1⟩
      · omega
      have hb1' := hb1 (by omega)
      obtain ⟨d1, d2, d3⟩ := c1 k hlt
      have d1 := (hbel.out.cell (p := ⟨b1, o1 + k * 3, none⟩) hb1').trans d1
      have d2 := (hbel.out.cell (p := ⟨b1, o1 + k * 3 + 1, none⟩) hb1').trans d2
      have d3 := (hbel.out.cell (p := ⟨b1, o1 + k * 3 + 2, none⟩) hb1').trans d3
      have hh := hid (HH.out k hlt hall.out)
      have HNX := hid (show ((l.getD k noRg).f == c) = false → ∀ i, i < k + 1 → ((l.getD i noRg).f == c) = false from fun he i hi => by
        rcases Nat.lt_or_ge i k with h | h
        · exact hall.out i h
        · obtain rfl : i = k := by omega
          exact he)
      clear c1
      generalize l.getD k noRg = r at d1 d2 d3 hh HNX
      obtain ⟨rf, rt, rv⟩ := r
      simp only at d1 d2 d3 hh HNX
      obtain ⟨b, hb⟩ : ∃ b, b = (rf == c) := ⟨_, rfl⟩
      rw [← hb] at hh HNX
      replace hb := hb.symm
      have HBW := hid (show Below wr.heap.size wr (wr.alloc (.cells #[.int .i64 rf, .int .i64 rt, .int .i64 rv] 69)) by (repeat (first | exact Below.refl _ _ | exact below_drewN _ | refine Below.drew ?_ | refine Below.alloc ?_ (by simp) _ | refine Below.setCell ?_ (by simp) _ | refine below_drewN' ?_ _)))
      have HNW := hid (Box.made wr 69 [.int .i64 rf, .int .i64 rt, .int .i64 rv])
      have HRA := hid (hbr.out.alloc (.cells #[.int .i64 rf, .int .i64 rt, .int .i64 rv] 69))
      have HTA := hid (hbt.out.alloc (.cells #[.int .i64 rf, .int .i64 rt, .int .i64 rv] 69))
      have x1 := HTA.out.cell 1
      simp only [List.getElem?_cons_zero, List.getElem?_cons_succ] at x1
      cases b with
      | true =>
        have hr := hid (hh.out rfl)
        go_wp2_with (go_at_call 80; refine (ucdWhole rf rt rv _).mono ?_; rintro e wu ⟨rfl, hbu⟩; have HBU := hid (hbel.out.trans ((HBW.out.trans (hbu.mono HBW.out.size)).mono hbel.out.size)); have HRU := hid (HRA.out.below hbu HRA.out.lt); have HNU := hid (HNW.out.below hbu HNW.out.lt); clear hbu; have y2 := HNU.out.cell 0; have y3 := HNU.out.cell 1; have y4 := HNU.out.cell 2; have z0 := HRU.out.ice 0; have z1 := HRU.out.ice 1; have z2 := HRU.out.ice 2; have w0 := HRU.out.cell 0; have w1 := HRU.out.cell 1; have w2 := HRU.out.cell 2; simp only [List.getElem?_cons_zero, List.getElem?_cons_succ] at w0 w1 w2 y2 y3 y4)
        refine bodyPost_ret (results_two rfl rfl (loadC3 (HRU.out.three _ _ _))) rfl ⟨by rw [hr.out]; rfl, below_three HBU.out (by omega)⟩
      | false =>
        have hr := hid (HNX.out rfl)
        go_wp2_with (go_at_call 80; refine (ucdWhole rf rt rv _).mono ?_; rintro e wu ⟨rfl, hbu⟩; have HBU := hid (hbel.out.trans ((HBW.out.trans (hbu.mono HBW.out.size)).mono hbel.out.size)); have HRU := hid (HRA.out.below hbu HRA.out.lt); have HTU := hid (HTA.out.below hbu HTA.out.lt); clear hbu)
        go_roundw
        case rel => exact ⟨k + 1, by omega, by go_num, HTU.out, HRU.out, HBU.out, hr.out⟩
        case measure => simp [intOf]; omega
    · obtain rfl : k = n := by omega
      have hr := hid (HN.out hall.out)
      have z0 := hbr.out.ice 0
      have z1 := hbr.out.ice 1
      have z2 := hbr.out.ice 2
      have w0 := hbr.out.cell 0
      have w1 := hbr.out.cell 1
      have w2 := hbr.out.cell 2
      simp only [List.getElem?_cons_zero, List.getElem?_cons_succ] at w0 w1 w2
      have HB3 := hid (below_three (B := w.heap.size + 1) (a := .int .i64 0) (b := .int .i64 0) (c := .int .i64 0) hbel.out (by omega))
      have HR3 := hid (hbr.out.three (.int .i64 0) (.int .i64 0) (.int .i64 0))
      go_wp2_with (fail)
      refine bodyPost_ret (results_two rfl rfl (loadC3 (HR3.out.alloc _))) rfl ⟨by rw [hr.out]; rfl, HB3.out.alloc HB3.out.size _⟩
end Go.Proofs.Ytldjcogjimgnbaa

/-! Ix -/
namespace Go.Proofs.Ytldjcogjimgnbaa
open Go.RowKit

theorem ixr' (x m : Int) (hm : 0 < m) : 0 ≤ (IntKind.u64.wrap x).tmod m ∧ (IntKind.u64.wrap x).tmod m < m := by
  have h0 : 0 ≤ IntKind.u64.wrap x := by
    simp only [IntKind.wrap, IntKind.bits, IntKind.signed]
    simp
    omega
  rw [Int.tmod_eq_emod_of_nonneg h0]
  exact ⟨Int.emod_nonneg _ (by omega), Int.emod_lt_of_pos _ hm⟩
theorem ixr (x m : Int) (hm : 0 < m) (hl : m ≤ 1000000) : 0 ≤ wrap64 ((IntKind.u64.wrap x).tmod m) ∧ wrap64 ((IntKind.u64.wrap x).tmod m) < m := by
  have h := ixr' x m hm
  have e : wrap64 ((IntKind.u64.wrap x).tmod m) = (IntKind.u64.wrap x).tmod m := by unfold wrap64; omega
  rw [e]
  exact h
theorem Sl.one {k : IntKind} {w : World} {v : Value} {x : Int} (h : Sl k w v [x]) : ∃ b o c, v = .slice (some ⟨b, o, none⟩) 1 c ∧ w.cell? ⟨b, o, none⟩ = some (.int k x) := by
  obtain ⟨a, c, rfl, hl, -, h⟩ := h
  rcases h with rfl | ⟨b, o, rfl, -, h⟩
  · simp at hl
  · exact ⟨b, o, c, rfl, by simpa using h 0 (by simp)⟩
theorem Sl.two {k : IntKind} {w : World} {v : Value} {x y : Int} (h : Sl k w v [x, y]) : ∃ b o c, v = .slice (some ⟨b, o, none⟩) 2 c ∧ w.cell? ⟨b, o, none⟩ = some (.int k x) ∧ w.cell? ⟨b, o + 1, none⟩ = some (.int k y) := by
  obtain ⟨a, c, rfl, hl, -, h⟩ := h
  rcases h with rfl | ⟨b, o, rfl, -, h⟩
  · simp at hl
  · exact ⟨b, o, c, rfl, by simpa using h 0 (by simp), by simpa using h 1 (by simp)⟩
end Go.Proofs.Ytldjcogjimgnbaa
