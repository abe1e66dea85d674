/- The pool of blocks: what it holds, what its map says, how a block is loaded whole. No conditions. -/
import Derived.Test.YtlngnmcflooccaaPool1
import Derived.Test.YtlngnmcflooccaaTail
import Derived.Deep.AppendLies
import Derived.BigQuiet
namespace Go.Proofs.Ytlngnmcflooccaa
open Go.RowKit Go.Maps

/-- the pool in block P, its map in block M: the blocks met so far, in their order -/
def PoolOk (P M base : Nat) (w : World) (bs : List (List Int)) : Prop :=
  ∃ iv D, Box 49 [iv, .map (some M)] P w ∧ w.ownsRow base 52 256 iv bs.length (uv bs.flatten) ∧ w.ownsMap Try.prog 52 (plainElem (H := Unit) Try.prog 3) M bs.length D ∧ IdxD D bs
theorem ownsRow_below {e base size : Nat} {w w' : World} {v : Value} {n : Nat} {cs : List Value} (h : w.ownsRow base e size v n cs) (hb : Below w.heap.size w w') : w'.ownsRow base e size v n cs := by
  obtain ⟨h1, h2⟩ := h
  refine ⟨h1, ?_⟩
  rcases h2 with h2 | ⟨g, cap, cur, hv, hg, hh, r⟩
  · exact .inl h2
  · exact .inr ⟨g, cap, cur, hv, hg, by rw [hb.block g (Array.getElem?_eq_some_iff.1 hh).1]; exact hh, r⟩
theorem ownsMap_below {P : Program} {k : TypeId} {R : Value → Option (DataW Unit × List MemPlace)} {w w' : World} {b n : Nat} {D : DataW Unit} (h : w.ownsMap P k R b n D) (hb : Below w.heap.size w w') : w'.ownsMap P k R b n D := by
  have hlt := h.lt
  obtain ⟨es, clock, he, r⟩ := h
  exact ⟨es, clock, (hb.block b hlt).trans he, r⟩
theorem PoolOk.below {P M base : Nat} {w w' : World} {bs : List (List Int)} (h : PoolOk P M base w bs) (hb : Below w.heap.size w w') : PoolOk P M base w' bs := by
  obtain ⟨iv, D, h1, h2, h3, h4⟩ := h
  exact ⟨iv, D, h1.below hb h1.lt, ownsRow_below h2 hb, ownsMap_below h3 hb, h4⟩
/-- what is no block of numbers and no pool stays -/
def Keeps (w w' : World) : Prop := ∀ t cs i, t ≠ 52 → t ≠ 49 → Box t cs i w → Box t cs i w'
theorem Keeps.of_below {w w' : World} (h : Below w.heap.size w w') : Keeps w w' := fun _ _ _ _ _ hb => hb.below h hb.lt
theorem Keeps.trans {a b c : World} (h : Keeps a b) (k : Keeps b c) : Keeps a c := fun t cs i h1 h2 hb => k t cs i h1 h2 (h t cs i h1 h2 hb)

theorem zero_int5 (w : World) : (zeroValue 3).run Try.prog w = .ok (.int .i64 0) w := by kernel_rfl
/-- the block is looked up -/
theorem pool_look {M : Nat} {w : World} {bs : List (List Int)} {D : DataW Unit} (h3 : w.ownsMap Try.prog 52 (plainElem (H := Unit) Try.prog 3) M bs.length D) (h4 : IdxD D bs) {b : List Int} (hb : B16 b) :
    (Instr.lookup 46 (.map (some M)) (.agg (uv b).toArray) true).run Try.prog w = .ok (.tuple #[.int .i64 (if b ∈ bs then ((bs.idxOf b : Nat) : Int) else 0), .bool (decide (b ∈ bs))]) w := by
  have hk := blk_key hb
  obtain ⟨h5, h6⟩ := h4 b _ hk
  obtain ⟨v, ps, hrun, hv⟩ := h3.look_ok blk_law Try.underlying46 (zero_int5 w) (zd := .lit (.int .i64 0)) (zp := []) (plainElem_int Try.underlying3 (by decide)) hk
  obtain ⟨c, rfl, hc, _⟩ := plainElem_int_inv Try.underlying3 hv
  rw [hrun, h5]
  by_cases hm : b ∈ bs
  · have := (congrArg Prod.fst hc).symm.trans (h6 hm)
    injection this with this
    injection this with _ this
    rw [if_pos hm, this]
  · have h7 := Maps.atKey_of_not_has (h5.trans (decide_eq_false hm)) (.lit (.int .i64 0))
    have := (congrArg Prod.fst hc).symm.trans h7
    injection this with this
    injection this with _ this
    rw [if_neg hm, this]
/-- a block is loaded whole -/
theorem blk_load {cs : List Value} {B : Nat} {w : World} (h : Box 52 cs B w) (hl : cs.length = 256) :
    (loadVar 52 ⟨B, 0, none⟩).run Try.prog w = .ok (.agg cs.toArray) w ∧ (loadCellsFrom ⟨B, 0, none⟩ 0 256 #[]).run Try.prog w = .ok cs.toArray w := by
  refine ⟨run_loadVar_row w B 52 52 cs.toArray (0, 0) _ h blk_under rfl (by rw [List.size_toArray, hl]; kernel_rfl), ?_⟩
  have := run_loadCells_list (P := Try.prog) w ⟨B, 0, none⟩ cs (fun j v hv => by
    have hadd : (⟨B, 0, none⟩ : Addr).add j = ⟨B, j, none⟩ := by unfold Addr.add; split <;> simp_all
    rw [hadd, cell_of_row w B j cs.toArray 52 (0, 0) h]
    simpa using hv)
  rw [hl] at this
  simpa [loadCells] using this
end Go.Proofs.Ytlngnmcflooccaa
