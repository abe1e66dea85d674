/- Contracts of package api's tables of ranges: each call lays the table anew. -/
import Derived.Test.YtpdcmfnemfopjaaTabs6
import Derived.Test.YtpdcmfnemfopjaaKeepG
import Derived.Great.Walk
namespace Go.Proofs.Ytpdcmfnemfopjaa
open Go.RowKit
open Go.Great (wp_anyFrame)

/-- a block laid as the cells of ranges reads as these ranges -/
theorem sg_cells {w : World} {l : List Rg} {e : TypeId} {n k : Nat} {cs : Array Value} (hn : n = w.heap.size) (hk : k = l.length) (hc : cs.toList = l.flatMap fun r => [.int .i64 r.f, .int .i64 r.t, .int .i64 r.v]) (hm : l.length ≤ 1000000) :
    Sg (w.alloc (.cells cs e)) (.slice (some ⟨n, 0, none⟩) k k) l := by
  subst hn hk
  refine ⟨_, l.length, rfl, Nat.le_refl _, by unfold maxLen; omega, .inr ⟨w.heap.size, 0, rfl, fun _ => by simp, fun i hi => ?_⟩⟩
  have key : ∀ (l : List Rg) (i : Nat), i < l.length → ∀ j, j < 3 → (l.flatMap fun r : Rg => [Value.int .i64 r.f, .int .i64 r.t, .int .i64 r.v])[i * 3 + j]? = [Value.int .i64 (l.getD i noRg).f, .int .i64 (l.getD i noRg).t, .int .i64 (l.getD i noRg).v][j]? := fun l => by
    induction l with
    | nil => intro i hi; simp at hi
    | cons r l ih =>
      intro i hi j hj
      match i with
      | 0 =>
        match j, hj with
        | 0, _ => rfl
        | 1, _ => rfl
        | 2, _ => rfl
      | i + 1 =>
        have := ih i (by simpa using hi) j hj
        rw [List.flatMap_cons, show (i + 1) * 3 + j = i * 3 + j + 1 + 1 + 1 by omega]
        simpa using this
  have hat : ∀ j, (w.alloc (.cells cs e)).cell? ⟨w.heap.size, j, none⟩ = cs.toList[j]? := fun j => by
    rw [cell_of_row _ w.heap.size j cs e (0, 0) (heap_alloc_new w _)]
    simp
  have k0 := key l i hi 0 (by omega)
  have k1 := key l i hi 1 (by omega)
  have k2 := key l i hi 2 (by omega)
  simp only [Nat.zero_add]
  refine ⟨?_, ?_, ?_⟩
  · rw [hat, hc]; exact k0
  · rw [hat, hc]; exact k1
  · rw [hat, hc]; exact k2

/-- a table's numbers as the library's law on such literals takes them -/
def tri (l : List Rg) : List Lib.Rg := l.map fun r => (r.f.toNat, r.t.toNat, r.v.toNat)

theorem tri_cells : ∀ {l : List Rg}, (l.all fun r => decide (0 ≤ r.f) && (decide (0 ≤ r.t) && decide (0 ≤ r.v))) = true → (Lib.rgCells .i64 (tri l).toArray).toList = l.flatMap fun r => [.int .i64 r.f, .int .i64 r.t, .int .i64 r.v]
  | [], _ => rfl
  | r :: l, h => by
    simp only [List.all_cons, Bool.and_eq_true, decide_eq_true_eq] at h
    have ih := tri_cells (l := l) h.2
    simp only [Lib.rgCells, tri, List.map_cons, List.flatMap_cons, Lib.cells3, Int.toNat_of_nonneg h.1.1, Int.toNat_of_nonneg h.1.2.1, Int.toNat_of_nonneg h.1.2.2] at ih ⊢
    rw [ih]

theorem apiClasses (w : World) : Calls Try.prog 31 #[] w fun e w' => ∃ v, e = .returned v ∧ Sg w' v tabClasses ∧ Below w.heap.size w w' := by
  refine calls_of_wp Try.func31 rfl ?_
  refine wp_anyFrame 28 (by as_aux_lemma => kernel_rfl) rfl fun a0 hs0 hd0 => ?_
  apply wp_seq_k; intro K0 hK0
  apply wp_region_lit
  refine Go.Great.wpList_readTo rfl (some 0) rfl (.slice none 0 0) rfl ?_
  apply wpList_nil
  refine hK0 _ _ ?_
  clear hK0 K0
  refine wp_anyFrame 28 (by simp only [Act.size_put, hs0]) (by simp only [Act.defers_put', hd0]) fun a1 hs1 hd1 => ?_
  apply wp_seq_k; intro K1 hK1
  apply wp_region_lit
  refine Go.Great.wpList_splitAt 26 (Go.Great.rgOps 37 "tables.go:80" .i64 1 (tri tabClasses)) (by as_aux_lemma => kernel_rfl) ?_
  refine Go.Great.wpList_rgs 37 "tables.go:80" .i64 (fun _ _ _ => by as_aux_lemma => kernel_rfl) _ 1 _ (by rw [hs1]; exact Nat.le_of_ble_eq_true (by as_aux_lemma => kernel_rfl)) fun b hb hbd hev _ => ?_
  refine Go.Great.wpList_buildRgs rfl 33 37 _ .i64 (tri tabClasses).toArray rfl 1 w.heap.size rfl (some 27) rfl (by as_aux_lemma => kernel_rfl) (by as_aux_lemma => kernel_rfl) (by as_aux_lemma => kernel_rfl) (by decide) (by decide) (by as_aux_lemma => kernel_rfl) hev ?_
  refine Go.Great.wpList_readTo rfl (some 0) rfl (.slice (some ⟨w.heap.size, 0, none⟩) 26 26) ?_ ?_
  · have := Act.eval_put_same b 27 (.slice (some ⟨w.heap.size, 0, none⟩) 26 26) (by rw [hb, hs1]; omega)
    exact congrArg (fun v => Result.ok (Next.value v) _) this
  apply wpList_nil
  refine hK1 _ _ ?_
  refine wp_ret (bodyPost_ret (results_tmp rfl _ _ _) (by simp only [Act.defers_put', hbd, hd1]) ⟨_, rfl, ?_, by (repeat (first | exact Below.refl _ _ | exact below_drewN _ | refine Below.drew ?_ | refine Below.alloc ?_ (by simp) _ | refine Below.setCell ?_ (by simp) _ | refine below_drewN' ?_ _))⟩)
  have := Act.eval_put_same (b.put (some 27) (.slice (some ⟨w.heap.size, 0, none⟩) 26 26)) 0 (.slice (some ⟨w.heap.size, 0, none⟩) 26 26) (by rw [Act.size_put, hb, hs1]; omega)
  rw [show ∀ a : Act, a.tmps.getD 0 undef = a.eval (.tmp 0) from fun _ => rfl]
  exact (congrArg (fun v => Sg _ v tabClasses) this).mpr (sg_cells rfl (by as_aux_lemma => kernel_rfl) (tri_cells (by decide)) (by decide))

theorem apiAssigned (w : World) : Calls Try.prog 32 #[] w fun e w' => ∃ v, e = .returned v ∧ Sg w' v tabAssigned ∧ Below w.heap.size w w' := by
  refine calls_of_wp Try.func32 rfl ?_
  refine wp_anyFrame 62 (by as_aux_lemma => kernel_rfl) rfl fun a0 hs0 hd0 => ?_
  apply wp_seq_k; intro K0 hK0
  apply wp_region_lit
  refine Go.Great.wpList_readTo rfl (some 0) rfl (.slice none 0 0) rfl ?_
  apply wpList_nil
  refine hK0 _ _ ?_
  clear hK0 K0
  refine wp_anyFrame 62 (by simp only [Act.size_put, hs0]) (by simp only [Act.defers_put', hd0]) fun a1 hs1 hd1 => ?_
  apply wp_seq_k; intro K1 hK1
  apply wp_region_lit
  refine Go.Great.wpList_splitAt 60 (Go.Great.rgOps 37 "tables.go:85" .i64 1 (tri tabAssigned)) (by as_aux_lemma => kernel_rfl) ?_
  refine Go.Great.wpList_rgs 37 "tables.go:85" .i64 (fun _ _ _ => by as_aux_lemma => kernel_rfl) _ 1 _ (by rw [hs1]; exact Nat.le_of_ble_eq_true (by as_aux_lemma => kernel_rfl)) fun b hb hbd hev _ => ?_
  refine Go.Great.wpList_buildRgs rfl 33 37 _ .i64 (tri tabAssigned).toArray rfl 1 w.heap.size rfl (some 61) rfl (by as_aux_lemma => kernel_rfl) (by as_aux_lemma => kernel_rfl) (by as_aux_lemma => kernel_rfl) (by decide) (by decide) (by as_aux_lemma => kernel_rfl) hev ?_
  refine Go.Great.wpList_readTo rfl (some 0) rfl (.slice (some ⟨w.heap.size, 0, none⟩) 60 60) ?_ ?_
  · have := Act.eval_put_same b 61 (.slice (some ⟨w.heap.size, 0, none⟩) 60 60) (by rw [hb, hs1]; omega)
    exact congrArg (fun v => Result.ok (Next.value v) _) this
  apply wpList_nil
  refine hK1 _ _ ?_
  refine wp_ret (bodyPost_ret (results_tmp rfl _ _ _) (by simp only [Act.defers_put', hbd, hd1]) ⟨_, rfl, ?_, by (repeat (first | exact Below.refl _ _ | exact below_drewN _ | refine Below.drew ?_ | refine Below.alloc ?_ (by simp) _ | refine Below.setCell ?_ (by simp) _ | refine below_drewN' ?_ _))⟩)
  have := Act.eval_put_same (b.put (some 61) (.slice (some ⟨w.heap.size, 0, none⟩) 60 60)) 0 (.slice (some ⟨w.heap.size, 0, none⟩) 60 60) (by rw [Act.size_put, hb, hs1]; omega)
  rw [show ∀ a : Act, a.tmps.getD 0 undef = a.eval (.tmp 0) from fun _ => rfl]
  exact (congrArg (fun v => Sg _ v tabAssigned) this).mpr (sg_cells rfl (by as_aux_lemma => kernel_rfl) (tri_cells (by decide)) (by decide))

theorem apiNothing (w : World) : Calls Try.prog 33 #[] w fun e w' => ∃ v, e = .returned v ∧ Sg w' v tabNothing ∧ Below w.heap.size w w' := by
  refine calls_of_wp Try.func33 rfl ?_
  refine wp_anyFrame 22 (by as_aux_lemma => kernel_rfl) rfl fun a0 hs0 hd0 => ?_
  apply wp_seq_k; intro K0 hK0
  apply wp_region_lit
  refine Go.Great.wpList_readTo rfl (some 0) rfl (.slice none 0 0) rfl ?_
  apply wpList_nil
  refine hK0 _ _ ?_
  clear hK0 K0
  refine wp_anyFrame 22 (by simp only [Act.size_put, hs0]) (by simp only [Act.defers_put', hd0]) fun a1 hs1 hd1 => ?_
  apply wp_seq_k; intro K1 hK1
  apply wp_region_lit
  refine Go.Great.wpList_splitAt 20 (Go.Great.rgOps 37 "tables.go:90" .i64 1 (tri tabNothing)) (by as_aux_lemma => kernel_rfl) ?_
  refine Go.Great.wpList_rgs 37 "tables.go:90" .i64 (fun _ _ _ => by as_aux_lemma => kernel_rfl) _ 1 _ (by rw [hs1]; exact Nat.le_of_ble_eq_true (by as_aux_lemma => kernel_rfl)) fun b hb hbd hev _ => ?_
  refine Go.Great.wpList_buildRgs rfl 33 37 _ .i64 (tri tabNothing).toArray rfl 1 w.heap.size rfl (some 21) rfl (by as_aux_lemma => kernel_rfl) (by as_aux_lemma => kernel_rfl) (by as_aux_lemma => kernel_rfl) (by decide) (by decide) (by as_aux_lemma => kernel_rfl) hev ?_
  refine Go.Great.wpList_readTo rfl (some 0) rfl (.slice (some ⟨w.heap.size, 0, none⟩) 20 20) ?_ ?_
  · have := Act.eval_put_same b 21 (.slice (some ⟨w.heap.size, 0, none⟩) 20 20) (by rw [hb, hs1]; omega)
    exact congrArg (fun v => Result.ok (Next.value v) _) this
  apply wpList_nil
  refine hK1 _ _ ?_
  refine wp_ret (bodyPost_ret (results_tmp rfl _ _ _) (by simp only [Act.defers_put', hbd, hd1]) ⟨_, rfl, ?_, by (repeat (first | exact Below.refl _ _ | exact below_drewN _ | refine Below.drew ?_ | refine Below.alloc ?_ (by simp) _ | refine Below.setCell ?_ (by simp) _ | refine below_drewN' ?_ _))⟩)
  have := Act.eval_put_same (b.put (some 21) (.slice (some ⟨w.heap.size, 0, none⟩) 20 20)) 0 (.slice (some ⟨w.heap.size, 0, none⟩) 20 20) (by rw [Act.size_put, hb, hs1]; omega)
  rw [show ∀ a : Act, a.tmps.getD 0 undef = a.eval (.tmp 0) from fun _ => rfl]
  exact (congrArg (fun v => Sg _ v tabNothing) this).mpr (sg_cells rfl (by as_aux_lemma => kernel_rfl) (tri_cells (by decide)) (by decide))

theorem apiSpaces (w : World) : Calls Try.prog 34 #[] w fun e w' => ∃ v, e = .returned v ∧ Sg w' v tabSpaces ∧ Below w.heap.size w w' := by
  refine calls_of_wp Try.func34 rfl ?_
  refine wp_anyFrame 11 (by as_aux_lemma => kernel_rfl) rfl fun a0 hs0 hd0 => ?_
  apply wp_seq_k; intro K0 hK0
  apply wp_region_lit
  refine Go.Great.wpList_readTo rfl (some 0) rfl (.slice none 0 0) rfl ?_
  apply wpList_nil
  refine hK0 _ _ ?_
  clear hK0 K0
  refine wp_anyFrame 11 (by simp only [Act.size_put, hs0]) (by simp only [Act.defers_put', hd0]) fun a1 hs1 hd1 => ?_
  apply wp_seq_k; intro K1 hK1
  apply wp_region_lit
  refine Go.Great.wpList_splitAt 9 (Go.Great.rgOps 37 "tables.go:95" .i64 1 (tri tabSpaces)) (by as_aux_lemma => kernel_rfl) ?_
  refine Go.Great.wpList_rgs 37 "tables.go:95" .i64 (fun _ _ _ => by as_aux_lemma => kernel_rfl) _ 1 _ (by rw [hs1]; exact Nat.le_of_ble_eq_true (by as_aux_lemma => kernel_rfl)) fun b hb hbd hev _ => ?_
  refine Go.Great.wpList_buildRgs rfl 33 37 _ .i64 (tri tabSpaces).toArray rfl 1 w.heap.size rfl (some 10) rfl (by as_aux_lemma => kernel_rfl) (by as_aux_lemma => kernel_rfl) (by as_aux_lemma => kernel_rfl) (by decide) (by decide) (by as_aux_lemma => kernel_rfl) hev ?_
  refine Go.Great.wpList_readTo rfl (some 0) rfl (.slice (some ⟨w.heap.size, 0, none⟩) 9 9) ?_ ?_
  · have := Act.eval_put_same b 10 (.slice (some ⟨w.heap.size, 0, none⟩) 9 9) (by rw [hb, hs1]; omega)
    exact congrArg (fun v => Result.ok (Next.value v) _) this
  apply wpList_nil
  refine hK1 _ _ ?_
  refine wp_ret (bodyPost_ret (results_tmp rfl _ _ _) (by simp only [Act.defers_put', hbd, hd1]) ⟨_, rfl, ?_, by (repeat (first | exact Below.refl _ _ | exact below_drewN _ | refine Below.drew ?_ | refine Below.alloc ?_ (by simp) _ | refine Below.setCell ?_ (by simp) _ | refine below_drewN' ?_ _))⟩)
  have := Act.eval_put_same (b.put (some 10) (.slice (some ⟨w.heap.size, 0, none⟩) 9 9)) 0 (.slice (some ⟨w.heap.size, 0, none⟩) 9 9) (by rw [Act.size_put, hb, hs1]; omega)
  rw [show ∀ a : Act, a.tmps.getD 0 undef = a.eval (.tmp 0) from fun _ => rfl]
  exact (congrArg (fun v => Sg _ v tabSpaces) this).mpr (sg_cells rfl (by as_aux_lemma => kernel_rfl) (tri_cells (by decide)) (by decide))

theorem apiProhibited (w : World) : Calls Try.prog 35 #[] w fun e w' => ∃ v, e = .returned v ∧ Sg w' v tabProhibited ∧ Below w.heap.size w w' := by
  refine calls_of_wp Try.func35 rfl ?_
  refine wp_anyFrame 7 (by as_aux_lemma => kernel_rfl) rfl fun a0 hs0 hd0 => ?_
  apply wp_seq_k; intro K0 hK0
  apply wp_region_lit
  refine Go.Great.wpList_readTo rfl (some 0) rfl (.slice none 0 0) rfl ?_
  apply wpList_nil
  refine hK0 _ _ ?_
  clear hK0 K0
  refine wp_anyFrame 7 (by simp only [Act.size_put, hs0]) (by simp only [Act.defers_put', hd0]) fun a1 hs1 hd1 => ?_
  apply wp_seq_k; intro K1 hK1
  apply wp_region_lit
  refine Go.Great.wpList_splitAt 5 (Go.Great.rgOps 37 "tables.go:100" .i64 1 (tri tabProhibited)) (by as_aux_lemma => kernel_rfl) ?_
  refine Go.Great.wpList_rgs 37 "tables.go:100" .i64 (fun _ _ _ => by as_aux_lemma => kernel_rfl) _ 1 _ (by rw [hs1]; exact Nat.le_of_ble_eq_true (by as_aux_lemma => kernel_rfl)) fun b hb hbd hev _ => ?_
  refine Go.Great.wpList_buildRgs rfl 33 37 _ .i64 (tri tabProhibited).toArray rfl 1 w.heap.size rfl (some 6) rfl (by as_aux_lemma => kernel_rfl) (by as_aux_lemma => kernel_rfl) (by as_aux_lemma => kernel_rfl) (by decide) (by decide) (by as_aux_lemma => kernel_rfl) hev ?_
  refine Go.Great.wpList_readTo rfl (some 0) rfl (.slice (some ⟨w.heap.size, 0, none⟩) 5 5) ?_ ?_
  · have := Act.eval_put_same b 6 (.slice (some ⟨w.heap.size, 0, none⟩) 5 5) (by rw [hb, hs1]; omega)
    exact congrArg (fun v => Result.ok (Next.value v) _) this
  apply wpList_nil
  refine hK1 _ _ ?_
  refine wp_ret (bodyPost_ret (results_tmp rfl _ _ _) (by simp only [Act.defers_put', hbd, hd1]) ⟨_, rfl, ?_, by (repeat (first | exact Below.refl _ _ | exact below_drewN _ | refine Below.drew ?_ | refine Below.alloc ?_ (by simp) _ | refine Below.setCell ?_ (by simp) _ | refine below_drewN' ?_ _))⟩)
  have := Act.eval_put_same (b.put (some 6) (.slice (some ⟨w.heap.size, 0, none⟩) 5 5)) 0 (.slice (some ⟨w.heap.size, 0, none⟩) 5 5) (by rw [Act.size_put, hb, hs1]; omega)
  rw [show ∀ a : Act, a.tmps.getD 0 undef = a.eval (.tmp 0) from fun _ => rfl]
  exact (congrArg (fun v => Sg _ v tabProhibited) this).mpr (sg_cells rfl (by as_aux_lemma => kernel_rfl) (tri_cells (by decide)) (by decide))
end Go.Proofs.Ytpdcmfnemfopjaa
