/- Several texts in one: Open2. -/
import Derived.Test.YtkjhbfcblnbkfaaPk30
import Derived.Test.YtkjhbfcblnbkfaaPk16
import Derived.Deep.Matrix
/-! Open2 -/
namespace Go.Proofs.Ytkjhbfcblnbkfaa
open Go.ChangeShapes Go.WideShapes Go.ChangeAt Go.RowKit Go.Deep
set_option linter.unusedVariables false
section
variable {H : Type} {enc : TypeId × Value → H} {P : Program} {w : World} {base : Nat} {spare : Nat → Bool} {held : Bool} {r : Reach} {b0 : Nat} {v : Value} {d : DataW H} {p : List MemPlace}

theorem open_bool1 {t : TypeId} (ht : P.underlying t = some .bool) (hv : Value.okWide P w r b0 t v) (h : DataW.Trod enc P w base spare held t v d p) : ∃ b, v = .bool b := by
  exact okWide_bool ht hv

theorem add_plain {b off i : Nat} : (⟨b, off, none⟩ : Addr).add i = ⟨b, off + i, none⟩ := by unfold Addr.add; split <;> simp_all

theorem open_rows {t e q : TypeId} (ht : P.underlying t = some (.slice e)) (he : P.underlying e = some (.slice q)) (hq : P.underlying q = some (.int .u8)) (ce : P.cellsOf e = 1) (cq : P.cellsOf q = 1)
    (hv : Value.okWide P w r b0 t v) (h : DataW.Trod enc P w base (fun _ => true) held t v d p) : ∃ xss, Rws w v xss ∧ ∀ xs ∈ xss, U8 xs := by
  obtain ⟨a0, len0, cap0, rfl⟩ := okWide_slice ht hv
  obtain ⟨fuel, hf⟩ := h
  rcases open_int_rows ht he hq ce cq hf with ⟨hcs, _⟩ | ⟨a, len, cap, A, L, C, Z, hcs, _, hl, hm, _, hx⟩
  · simp [Value.cells] at hcs
    obtain ⟨rfl, rfl, rfl⟩ := hcs
    exact ⟨[], ⟨[], rfl, ⟨none, 0, rfl, Nat.le_refl _, by unfold maxLen; omega, .inl rfl⟩, fun i hi => by simp at hi⟩, fun _ hx => by cases hx⟩
  · simp [Value.cells] at hcs
    obtain ⟨rfl, rfl, rfl⟩ := hcs
    refine ⟨(List.range len0).map fun i => (Z i).take (L i), ⟨(List.range len0).map fun i => .slice (A i) (L i) (C i), by simp, ⟨some a, cap0, by simp, by simpa using hl, hm, ?_⟩, fun i hi => ?_⟩, fun xs hxs => ?_⟩
    · rcases Nat.eq_zero_or_pos cap0 with h0 | h0
      · exact .inl h0
      · obtain ⟨b, off, spot⟩ := a
        have hc0 := (hx 0 h0).1
        have hspot : spot = none := by simpa [Addr.add] using World.cell?_spot hc0
        subst hspot
        refine .inr ⟨b, off, rfl, fun _ => World.block_lt_of_cell? w _ hc0, fun i hi => ?_⟩
        simp at hi
        have := (hx i (by omega)).1
        rw [add_plain] at this
        rw [this]
        simp [List.getD_eq_getElem?_getD, hi]
    · simp at hi
      obtain ⟨_, h2, h3, h4, h5, h6, h7⟩ := hx i (by omega)
      have hlen : ((Z i).take (L i)).length = L i := by simp; omega
      have e1 : ((List.range len0).map fun i => Value.slice (A i) (L i) (C i)).getD i undef = .slice (A i) (L i) (C i) := by simp [List.getD_eq_getElem?_getD, hi]
      have e2 : ((List.range len0).map fun i => (Z i).take (L i)).getD i [] = (Z i).take (L i) := by simp [List.getD_eq_getElem?_getD, hi]
      rw [e1, e2]
      refine ⟨A i, C i, by rw [hlen], by rw [hlen]; exact h2, h3, ?_⟩
      rcases Nat.eq_zero_or_pos (C i) with h0 | h0
      · exact .inl h0
      · match hA : A i with
        | none => exact .inl (h6 hA)
        | some ⟨b, off, spot⟩ =>
          have hc := (h7 _ hA).2
          have hc0 := hc 0 h0
          have hspot : spot = none := by simpa [Addr.add] using World.cell?_spot hc0
          subst hspot
          refine .inr ⟨b, off, rfl, fun _ => World.block_lt_of_cell? w _ hc0, fun j hj => ?_⟩
          rw [hlen] at hj
          have := hc j (by omega)
          rw [add_plain] at this
          rw [this]
          simp [List.getD_eq_getElem?_getD, hj]
    · obtain ⟨i, hi, rfl⟩ := List.mem_map.1 hxs
      have hi := List.mem_range.1 hi
      obtain ⟨_, h2, h3, h4, h5, h6, h7⟩ := hx i (by omega)
      exact fun n hn => wf_u8 (h5 n (List.mem_of_mem_take hn))

end
end Go.Proofs.Ytkjhbfcblnbkfaa
