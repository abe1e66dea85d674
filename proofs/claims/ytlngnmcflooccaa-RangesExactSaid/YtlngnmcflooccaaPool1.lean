/- Blocks of 256 numbers as keys of a map: what a key reads as; a map that tells the place of each of some blocks. No conditions. -/
import Derived.Test.YtlngnmcflooccaaRng6
import Derived.Maps.OwnSet
import Derived.DeepKeys4
import Derived.DataBytes
namespace Go.Proofs.Ytlngnmcflooccaa
open Go.RowKit Go.Maps

/-- a block: 256 numbers of 16 bits -/
def B16 (b : List Int) : Prop := b.length = 256 ∧ ∀ x ∈ b, 0 ≤ x ∧ x ≤ 65535
theorem uv_inj {b c : List Int} (h : uv b = uv c) : b = c := by
  have e : ∀ b : List Int, (uv b).map (fun v => match v with | .int _ x => x | _ => 0) = b := fun b => by
    induction b with
    | nil => rfl
    | cons x b ih => simp only [uv, List.map_cons] at ih ⊢; rw [ih]
  have := congrArg (List.map (fun v : Value => match v with | .int _ x => x | _ => 0)) h
  rwa [e, e] at this
theorem wf_u16 {x : Int} (h0 : 0 ≤ x) (h1 : x ≤ 65535) : (Lit.int .u16 x).wf = true := by
  simp [Lit.wf, IntKind.min, IntKind.max, IntKind.signed, IntKind.bits]
  omega
theorem blk_under : Try.prog.underlying 52 = some (.array 256 50) := by kernel_rfl
theorem blk_cells : Try.prog.cellsOf 52 = 256 := by kernel_rfl
theorem u16_cells : Try.prog.cellsOf 50 = 1 := by kernel_rfl
theorem u16_under : Try.prog.underlying 50 = some (.int .u16) := by kernel_rfl
theorem blk_keyType : Try.prog.keyType 52 = true := by kernel_rfl
theorem types_more : ∃ m, Try.prog.types.size = m + 1 := ⟨Try.prog.types.size - 1, by
  have : 0 < Try.prog.types.size := of_decide_eq_true (by kernel_rfl)
  omega⟩
theorem blk_key {b : List Int} (h : B16 b) : keyOf Try.prog 52 (.agg (uv b).toArray) = some (.string (keyBytes (b.map (Lit.int .u16)))) := by
  obtain ⟨m, hm⟩ := types_more
  unfold keyOf
  simp only [blk_under]
  rw [if_pos (by simp [blk_keyType, Value.formed, blk_cells, uv_len, h.1]), hm]
  unfold Program.keyLits
  simp only [blk_under, Value.cells]
  rw [if_pos (by rw [blk_cells]; simp [uv_len, h.1])]
  have key := mapM_some_of_forall (f := fun i => Try.prog.keyLits (m + 1) 50 (((uv b).toArray.toList.drop (i * Try.prog.cellsOf 50)).take (Try.prog.cellsOf 50))) (g := fun i => [Lit.int .u16 (b.getD i 0)]) (List.range 256) (fun i hi => by
    have hi := List.mem_range.1 hi
    have hx := h.2 (b.getD i 0) (by
      rw [List.getD_eq_getElem?_getD, List.getElem?_eq_getElem (by rw [h.1]; exact hi)]
      exact List.getElem_mem _)
    have e : ((uv b).toArray.toList.drop (i * Try.prog.cellsOf 50)).take (Try.prog.cellsOf 50) = [.int .u16 (b.getD i 0)] := by
      rw [u16_cells, Nat.mul_one, List.drop_eq_getElem_cons (by simp [uv_len, h.1]; exact hi), List.take_succ_cons, List.take_zero]
      simp [uv, List.getD_eq_getElem?_getD, List.getElem?_eq_getElem (show i < b.length by rw [h.1]; exact hi)]
    rw [e]
    unfold Program.keyLits
    simp only [u16_under]
    rw [if_pos ⟨trivial, wf_u16 hx.1 hx.2⟩])
  rw [key]
  have e2 : ((List.range 256).map (fun i => [Lit.int .u16 (b.getD i 0)])).flatten = b.map (Lit.int .u16) := by
    rw [← List.flatMap_def]
    have : ∀ (l : List Nat) (f : Nat → Lit), l.flatMap (fun i => [f i]) = l.map f := fun l f => by
      induction l with
      | nil => rfl
      | cons x l ih => rw [List.flatMap_cons, ih]; rfl
    rw [this]
    apply List.ext_getElem
    · simp [h.1]
    · intro i h1 h2
      simp [List.getD_eq_getElem?_getD, List.getElem?_eq_getElem (show i < b.length by simpa using h2)]
  simp only [Option.map_some, e2]
theorem Try.laidOut5 : laidOutB Try.prog = true := by kernel_rfl
theorem blk_row : (52 : TypeId) < Try.prog.types.size := of_decide_eq_true (by kernel_rfl)
theorem blk_wide : (match Try.prog.underlying 52 with | some (.array _ _) | some (.struct _) => true | _ => false) = true := by kernel_rfl
theorem blk_law : Keyed Try.prog 52 := Keyed.of_law (deep_law_laid Try.laidOut5 (m := 2) (by omega) blk_row (by kernel_rfl) blk_wide)
theorem blk_other {b c : List Int} {k l : Lit} (hk : keyOf Try.prog 52 (.agg (uv b).toArray) = some k) (hl : keyOf Try.prog 52 (.agg (uv c).toArray) = some l) (hn : b ≠ c) : k ≠ l := fun e => by
  subst e
  have := blk_law.inj hk hl
  injection this with this
  have e : (uv b).toArray.toList = (uv c).toArray.toList := by rw [this]
  exact hn (uv_inj e)

/-- the datum tells of each block whether it is among bs, and its place -/
def IdxD (D : DataW Unit) (bs : List (List Int)) : Prop := ∀ b kl, keyOf Try.prog 52 (.agg (uv b).toArray) = some kl →
  Maps.has D kl = decide (b ∈ bs) ∧ (b ∈ bs → D.atKey kl (.lit (.int .i64 0)) = .lit (.int .i64 (bs.idxOf b : Nat)))
theorem IdxD.start : IdxD (.map []) [] := fun _ _ _ => ⟨by simp [Maps.has_eq], fun h => by cases h⟩
theorem IdxD.more {D : DataW Unit} {bs : List (List Int)} (h : IdxD D bs) (hD : IsMap D) {b : List Int} (hb : b ∉ bs) {kl : Lit} (hk : keyOf Try.prog 52 (.agg (uv b).toArray) = some kl) :
    IdxD (D.put kl (.lit (.int .i64 (bs.length : Nat)))) (bs ++ [b]) := fun c lc hc => by
  by_cases hcb : c = b
  · subst hcb
    obtain rfl : lc = kl := by rw [hk] at hc; injection hc with hc; exact hc.symm
    refine ⟨by rw [Maps.has_put_same hD (blk_law.key hk)]; simp, fun _ => ?_⟩
    rw [Maps.atKey_put_same hD (blk_law.key hk), List.idxOf_append, if_neg hb]
    simp
  · have hne := blk_other hc hk hcb
    obtain ⟨h1, h2⟩ := h c lc hc
    refine ⟨by rw [Maps.has_put_other hne, h1]; simp [hcb], fun hm => ?_⟩
    have hm' : c ∈ bs := by
      rcases List.mem_append.1 hm with h | h
      · exact h
      · exact absurd (by simpa using h) hcb
    rw [Maps.atKey_put_other hne, h2 hm', List.idxOf_append, if_pos hm']
end Go.Proofs.Ytlngnmcflooccaa
