/- How arguments read: a slice of ranges. -/
import Derived.Test.YtlngnmcflooccaaOpenB
import Derived.Test.YtlngnmcflooccaaSg
import Derived.Deep.Slices
import Derived.ChangeSame
namespace Go.Proofs.Ytlngnmcflooccaa
open Go.ChangeShapes Go.WideShapes Go.ChangeAt Go.RowKit Go.Deep
set_option linter.unusedVariables false
theorem addr_plain {b off i : Nat} : (⟨b, off, none⟩ : Addr).add i = ⟨b, off + i, none⟩ := by unfold Addr.add; split <;> simp_all
section
variable {H : Type} {enc : TypeId × Value → H} {P : Program} {w : World} {base : Nat} {spare : Nat → Bool} {held : Bool} {r : Reach} {b0 : Nat} {v : Value} {d : DataW H} {p : List MemPlace}

theorem open_ranges {t e : TypeId} {f0 f1 f2 : Field} (ht : P.underlying t = some (.slice e)) (he : P.underlying e = some (.struct #[f0, f1, f2])) (hone : oneCellFields P #[f0, f1, f2] = true) (hC : P.cellsOf e = 3)
    (h0 : P.underlying f0.type = some (.int .i64)) (h1 : P.underlying f1.type = some (.int .i64)) (h2 : P.underlying f2.type = some (.int .i64))
    (hv : Value.okWide P w r b0 t v) (h : DataW.Trod enc P w base (fun _ => true) held t v d p) : ∃ l, Sg w v l ∧ ∀ x ∈ l, (-9223372036854775808 ≤ x.f ∧ x.f ≤ 9223372036854775807) ∧ (-9223372036854775808 ≤ x.t ∧ x.t ≤ 9223372036854775807) ∧ (-9223372036854775808 ≤ x.v ∧ x.v ≤ 9223372036854775807) := by
  obtain ⟨a0, len0, cap0, rfl⟩ := okWide_slice ht hv
  obtain ⟨fuel, hf⟩ := h
  rcases open_slice ht hf with ⟨hcs, _⟩ | ⟨a, len, cap, m, n, D, Pl, hcs, hb, hl, hm, hmm, hx, hi⟩
  · simp [Value.cells] at hcs
    obtain ⟨rfl, rfl, rfl⟩ := hcs
    exact ⟨[], ⟨none, 0, rfl, Nat.le_refl _, by unfold maxLen; omega, .inl rfl⟩, fun _ hx => by cases hx⟩
  · simp [Value.cells] at hcs
    obtain ⟨rfl, rfl, rfl⟩ := hcs
    have hmm : m = cap0 := by simpa using hmm
    subst hmm
    have hell : ∀ i, i < m → ∃ x : Rg, (w.cell? (a.add (i * 3)) = some (.int .i64 x.f) ∧ w.cell? (a.add (i * 3 + 1)) = some (.int .i64 x.t) ∧ w.cell? (a.add (i * 3 + 2)) = some (.int .i64 x.v)) ∧
        (-9223372036854775808 ≤ x.f ∧ x.f ≤ 9223372036854775807) ∧ (-9223372036854775808 ≤ x.t ∧ x.t ≤ 9223372036854775807) ∧ (-9223372036854775808 ≤ x.v ∧ x.v ≤ 9223372036854775807) := by
      intro i hil
      obtain ⟨cs', hc, ht'⟩ := hi i hil
      rw [hC] at hc
      obtain ⟨ys, n', hn', hy, hlen, hyl, hg⟩ := DataW.trod_struct he ht'
      obtain ⟨_, hcl, hat⟩ := World.cells?_some hc
      match cs', hcl with
      | [c0, c1, c2], _ =>
        match ys, hyl with
        | [y0, y1, y2], _ =>
          obtain ⟨o0, k0⟩ := hone_of hone 0 f0 rfl
          obtain ⟨o1, k1⟩ := hone_of hone 1 f1 rfl
          obtain ⟨o2, k2⟩ := hone_of hone 2 f2 rfl
          have g0 : DataW.trod enc P w base (fun _ => true) held n' f0.type [c0] = some y0 := by simpa [o0, k0] using hg 0 f0 rfl
          have g1 : DataW.trod enc P w base (fun _ => true) held n' f1.type [c1] = some y1 := by simpa [o1, k1] using hg 1 f1 rfl
          have g2 : DataW.trod enc P w base (fun _ => true) held n' f2.type [c2] = some y2 := by simpa [o2, k2] using hg 2 f2 rfl
          obtain ⟨x0, e0, _, q0⟩ := DataW.trod_int h0 g0
          obtain ⟨x1, e1, _, q1⟩ := DataW.trod_int h1 g1
          obtain ⟨x2, e2, _, q2⟩ := DataW.trod_int h2 g2
          simp only [List.cons.injEq, and_true] at e0 e1 e2
          subst e0 e1 e2
          have a0 := hat 0 (by decide)
          have a1 := hat 1 (by decide)
          have a2 := hat 2 (by decide)
          rw [Go.Deep.add_add] at a0 a1 a2
          exact ⟨⟨x0, x1, x2⟩, ⟨by simpa using a0, by simpa using a1, by simpa using a2⟩, wf_i64 q0, wf_i64 q1, wf_i64 q2⟩
    have hch : ∃ F : Nat → Rg, ∀ i, i < m → (w.cell? (a.add (i * 3)) = some (.int .i64 (F i).f) ∧ w.cell? (a.add (i * 3 + 1)) = some (.int .i64 (F i).t) ∧ w.cell? (a.add (i * 3 + 2)) = some (.int .i64 (F i).v)) ∧
        (-9223372036854775808 ≤ (F i).f ∧ (F i).f ≤ 9223372036854775807) ∧ (-9223372036854775808 ≤ (F i).t ∧ (F i).t ≤ 9223372036854775807) ∧ (-9223372036854775808 ≤ (F i).v ∧ (F i).v ≤ 9223372036854775807) :=
      ⟨fun i => if hi : i < m then Classical.choose (hell i hi) else noRg, fun i hi => by
        simp only [dif_pos hi]
        exact Classical.choose_spec (hell i hi)⟩
    obtain ⟨F, hF⟩ := hch
    refine ⟨(List.range len0).map F, ⟨some a, m, by simp, by simpa using hl, hm, ?_⟩, fun x hx => ?_⟩
    · rcases Nat.eq_zero_or_pos m with h9 | h9
      · exact .inl h9
      · obtain ⟨b, off, spot⟩ := a
        have hc0 := (hF 0 h9).1.1
        have hspot : spot = none := by simpa [Addr.add] using World.cell?_spot hc0
        subst hspot
        have hadd : ∀ j, (⟨b, off, none⟩ : Addr).add j = ⟨b, off + j, none⟩ := fun j => addr_plain
        refine .inr ⟨b, off, rfl, fun _ => World.block_lt_of_cell? w _ hc0, fun i hi => ?_⟩
        simp at hi
        obtain ⟨⟨b0, b1, b2⟩, _⟩ := hF i (by omega)
        rw [hadd] at b0 b1 b2
        have e : ((List.range len0).map F).getD i noRg = F i := by simp [List.getD_eq_getElem?_getD, hi]
        rw [e]
        exact ⟨b0, by rw [Nat.add_assoc]; exact b1, by rw [Nat.add_assoc]; exact b2⟩
    · obtain ⟨i, hi, rfl⟩ := List.mem_map.1 hx
      have := List.mem_range.1 hi
      exact (hF i (by omega)).2
end
end Go.Proofs.Ytlngnmcflooccaa
