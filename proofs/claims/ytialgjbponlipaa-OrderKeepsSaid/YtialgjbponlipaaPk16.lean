/- Several texts in one: Ucd10, Ucd4, Ucd11. -/
import Derived.Test.YtialgjbponlipaaPk2
import Derived.Test.YtialgjbponlipaaPk11
import Derived.Test.YtialgjbponlipaaPk13
import Derived.Test.YtialgjbponlipaaPk15
import Derived.Test.YtialgjbponlipaaPk10
/-! Ucd10 -/
namespace Go.Proofs.Ytialgjbponlipaa
open Go.RowKit

def mapS (l : List Mp) (c : Int) : List Int := if scalarB c then (fndM c l).1.t else []
theorem mapS_t {l : List Mp} {c : Int} (h : scalarB c = true) : (fndM c l).1.t = mapS l c := by unfold mapS; rw [h]; rfl
theorem mapS_f {l : List Mp} {c : Int} (h : scalarB c = false) : [] = mapS l c := by unfold mapS; rw [h]; rfl

theorem store_fn (P : Program) (f : Fn) (a : Addr) (m : Mode) (w : World) : (store a (.func f #[] #[]) m).run P w = stored P w a (.func f #[] #[]) m := run_store P w a _ m rfl
theorem OwnG.far6 {e base : Nat} {w : World} {v : Value} {l : List Rg} (h : OwnG e base w v l) {B : Nat} (hB : B < base) (j : Nat) (u : Value) : OwnG e base (w.setCell ⟨B, j, none⟩ u) v l := by
  obtain ⟨h1, h2⟩ := h
  refine ⟨h1, ?_⟩
  rcases h2 with h2 | ⟨g, cap, cur, hv, hg, hh, r⟩
  · exact .inl h2
  · refine .inr ⟨g, cap, cur, hv, hg, ?_, r⟩
    rw [Below.heap_setCell _ _ _ _ (fun e => by simp only at e; omega)]
    exact hh
/-- the canonical decomposition that a row tells -/
def rowS (r : Rg × Bool) : List Int := if r.2 then (if r.1.v == 0 then [r.1.t] else [r.1.t, r.1.v]) else []
def canonS (c : Int) : List Int := if scalarB c then rowS (fndS (fun r => r.f == c) tabCanon) else []
theorem canonS_t {c : Int} (h : scalarB c = true) : rowS (fndS (fun r => r.f == c) tabCanon) = canonS c := by unfold canonS; rw [h]; rfl
theorem canonS_f {c : Int} (h : scalarB c = false) : [] = canonS c := by unfold canonS; rw [h]; rfl

end Go.Proofs.Ytialgjbponlipaa

/-! Ucd4 -/
namespace Go.Proofs.Ytialgjbponlipaa
open Go.RowKit

theorem box_third (w : World) (A B : Obj) (t : TypeId) (cs : List Value) : Box t cs (w.heap.size + 2) (((w.alloc A).alloc B).alloc (.cells cs.toArray t)) := by
  have := Box.made ((w.alloc A).alloc B) t cs
  simpa using this
end Go.Proofs.Ytialgjbponlipaa

/-! Ucd11 -/
namespace Go.Proofs.Ytialgjbponlipaa
open Go.RowKit
open Go.Great (wp_anyFrame)

theorem apiClassesO (w : World) : Calls Try.prog 21 #[] w fun e w' => ∃ v, e = .returned v ∧ OwnG 59 w.heap.size w' v tabClasses ∧ Below w.heap.size w w' := by
  refine calls_of_wp Try.func21 rfl ?_
  refine wp_anyFrame 28 (by as_aux_lemma => kernel_rfl) rfl fun a0 hs0 hd0 => ?_
  apply wp_seq_k; intro K0 hK0
  apply wp_region_lit
  refine Go.Great.wpList_readTo rfl (some 0) rfl (.slice none 0 0) rfl ?_
  apply wpList_nil
  refine hK0 _ _ ?_
  clear hK0 K0
  refine wp_anyFrame 28 (by simp only [Act.size_put, hs0]) (by simp only [Act.defers_put', hd0]) fun a1 hs1 hd1 => ?_
  apply wp_seq_k; intro K1 hK1
  apply wp_region_lit
  refine Go.Great.wpList_splitAt 26 (Go.Great.rgOps 59 "tables.go:80" .i64 1 (tri tabClasses)) (by as_aux_lemma => kernel_rfl) ?_
  refine Go.Great.wpList_rgs 59 "tables.go:80" .i64 (fun _ _ _ => by as_aux_lemma => kernel_rfl) _ 1 _ (by rw [hs1]; exact Nat.le_of_ble_eq_true (by as_aux_lemma => kernel_rfl)) fun b hb hbd hev _ => ?_
  refine Go.Great.wpList_buildRgs rfl 36 59 _ .i64 (tri tabClasses).toArray rfl 1 w.heap.size rfl (some 27) rfl (by as_aux_lemma => kernel_rfl) (by as_aux_lemma => kernel_rfl) (by as_aux_lemma => kernel_rfl) (by decide) (by decide) (by as_aux_lemma => kernel_rfl) hev ?_
  refine Go.Great.wpList_readTo rfl (some 0) rfl (.slice (some ⟨w.heap.size, 0, none⟩) 26 26) ?_ ?_
  · have := Act.eval_put_same b 27 (.slice (some ⟨w.heap.size, 0, none⟩) 26 26) (by rw [hb, hs1]; omega)
    exact congrArg (fun v => Result.ok (Next.value v) _) this
  apply wpList_nil
  refine hK1 _ _ ?_
  refine wp_ret (bodyPost_ret (results_tmp rfl _ _ _) (by simp only [Act.defers_put', hbd, hd1]) ⟨_, rfl, ?_, by (repeat (first | exact Below.refl _ _ | exact below_drewN _ | refine Below.drew ?_ | refine Below.alloc ?_ (by simp) _ | refine Below.setCell ?_ (by simp) _ | refine below_drewN' ?_ _))⟩)
  have := Act.eval_put_same (b.put (some 27) (.slice (some ⟨w.heap.size, 0, none⟩) 26 26)) 0 (.slice (some ⟨w.heap.size, 0, none⟩) 26 26) (by rw [Act.size_put, hb, hs1]; omega)
  rw [show ∀ a : Act, a.tmps.getD 0 undef = a.eval (.tmp 0) from fun _ => rfl]
  exact (congrArg (fun v => OwnG _ _ _ v tabClasses) this).mpr (ownG_made rfl (by as_aux_lemma => kernel_rfl) (Nat.le_refl _) ((tri_cells (by decide)).trans gv_tri) (by decide))


def exclL : List Int := [836, 2392, 2393, 64285, 64298, 64299]
theorem apiExcludedO (w : World) : Calls Try.prog 20 #[] w fun e w' => ∃ v, e = .returned v ∧ Own .i64 3 w.heap.size w' v exclL ∧ Below w.heap.size w w' := by
  go_enter Try.func20, Try.ntmps20
  go_wp2_with (fail)
  go_ret
  exact ⟨_, rfl, lit_own (by first | simp | rfl) (Nat.le_refl _) rfl rfl (by decide), by (repeat (first | exact Below.refl _ _ | exact below_drewN _ | refine Below.drew ?_ | refine Below.alloc ?_ (by simp) _ | refine Below.setCell ?_ (by simp) _ | refine below_drewN' ?_ _))⟩

/-- what else is owned stays when a row of another type turns -/
theorem ownG_row {w w' : World} {base e size n : Nat} {v : Value} {cs : List Value} (h : w.ownsRow base e size v n cs) {e2 base2 : Nat} {u : Value} {l : List Rg} (ho : OwnG e2 base2 w u l) (ht : e2 ≠ e) (hg : w.grownBy w' v.ownBlock) : OwnG e2 base2 w' u l := by
  refine World.ownsRow.kept ho hg ?_
  cases hb : u.ownBlock with
  | none => exact .inl rfl
  | some c =>
    refine .inr fun hrow => ?_
    rcases h.2 with ⟨rfl, _⟩ | ⟨g, cap, cur, rfl, _, hg1, _⟩
    · simp [Value.ownBlock] at hrow
    · rcases ho.2 with ⟨rfl, _⟩ | ⟨g2, cap2, cur2, rfl, _, hg2, _⟩
      · simp [Value.ownBlock] at hb
      · simp [Value.ownBlock] at hrow hb
        subst hrow hb
        rw [hg1] at hg2
        simp at hg2
        exact ht hg2.2.symm
def tabPair : List Rg := tabCanon.filter fun r => !delS exclL tabClasses r
theorem canon_pos : 0 < tabCanon.length := by
  unfold tabCanon
  rw [List.length_append]
  have : 0 < canonHead.length := by decide
  omega
theorem box_other {t : TypeId} {cs : List Value} {B g : Nat} {w w' : World} (h : Box t cs B w) (hg : w.grownBy w' (some g)) (hn : B ≠ g) : Box t cs B w' := (hg.block B h.lt (fun e => hn (by injection e))).trans h
/-- what two scalars compose, and whether they do -/
def pairS (a b : Int) : Int × Bool := ((fndS (fun r => r.t == a && r.v == b) tabPair).1.f, (fndS (fun r => r.t == a && r.v == b) tabPair).2)
end Go.Proofs.Ytialgjbponlipaa
