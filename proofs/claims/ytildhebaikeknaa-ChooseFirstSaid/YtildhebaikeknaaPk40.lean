/- Several texts in one: App2. -/
import Derived.Test.YtildhebaikeknaaPk1
import Derived.Deep.AppendLies
/-! App2 -/
namespace Go.Proofs.Ytildhebaikeknaa
open Go.RowKit

/-- two rows lie in different blocks -/
def Apt (u v : Value) : Prop := ∀ b, u.ownBlock = some b → v.ownBlock ≠ some b
theorem Apt.turn {u v : Value} (h : Apt u v) : Apt v u := fun b h1 h2 => h b h2 h1
theorem wpList_appI {P : Program} (w : World) {ops : Array Oper} {rest : List Oper} {o : Oper} {a : Act} {Q : Exit → Act → World → Prop} (hgd : o.guard = none) (s x : Operand) (t : TypeId)
    (ho : o.op = .call { callee := .builtin .append, args := #[s, x], argTypes := #[t, t] }) (k : IntKind)
    (base e : Nat) (bytes : Nat) (ht : P.underlying t = some (.slice e)) (hinfo : (P.info? e).map (fun i => (i.zero, i.size, i.bytes)) = some (some (.int k 0), 1, bytes))
    (v : Value) (xs ys : List Int) (hs : a.eval s = v) (hown : Own k e base w v xs) (u : Value) (hx : a.eval x = u) (hu : Sl k w u ys) (hy : 0 < ys.length)
    (h63 : xs.length + ys.length ≤ maxLen) (hbytes : (xs.length + ys.length) * bytes ≤ 140737488355328) (hbase : base ≤ w.heap.size)
    (h : ∀ g cap w', Own k e base w' (.slice (some ⟨g, 0, none⟩) (xs.length + ys.length) cap) (xs ++ ys) → w.grownBy w' v.ownBlock → Below base w w' →
      (∀ z zs, Own k e base w z zs → Apt v z → Own k e base w' z zs ∧ Apt (.slice (some ⟨g, 0, none⟩) (xs.length + ys.length) cap) z) → wpList P ops Q rest (a.put o.dst (.slice (some ⟨g, 0, none⟩) (xs.length + ys.length) cap)) w') : wpList P ops Q (o :: rest) a w := by
  obtain ⟨i, hi, hz0, hz1, hz2⟩ := info_parts hinfo
  obtain ⟨ao, cap, rfl, hl, hm, hu⟩ := hu
  rcases hu with rfl | ⟨b, off, rfl, hbb, hc⟩
  · omega
  · refine wpList_append_lies w hgd s x t ho base e i (.int k 0) 1 bytes ht hi hz0 hz1 hz2 rfl (by decide) v xs.length (xs.map (Value.int k)) hs hown ⟨b, off, none⟩ ys.length cap (ys.map (Value.int k)) hx (by simp) ?_ (ints_oneCell k ys) hy h63 hbytes hbase w.heap.size rfl ?_
    · intro j u hj
      rw [List.getElem?_map] at hj
      have hadd : (⟨b, off, none⟩ : Addr).add j = ⟨b, off + j, none⟩ := by unfold Addr.add; split <;> simp_all
      rcases Nat.lt_or_ge j ys.length with hjl | hjl
      · rw [hadd, hc j hjl, ← hj, List.getD_eq_getElem?_getD, List.getElem?_eq_getElem hjl]; rfl
      · rw [List.getElem?_eq_none hjl] at hj; cases hj
    · intro g cap' w' hown' hg hgg hlt
      refine h g cap' w' (by simpa [Own] using hown') hg ((Below.refl base w).grown hg hbase (fun k hk => (World.ownsRow.lt hown k hk).1)) fun z zs hz hap => ⟨?_, ?_⟩
      · refine World.ownsRow.kept hz hg ?_
        cases hb : z.ownBlock with
        | none => exact .inl rfl
        | some c => exact .inr fun hrow => hap c hrow.symm hb
      · intro c hc1 hc2
        have : g = c := by simpa [Value.ownBlock] using hc1
        subst this
        rcases hgg with hgg | hgg
        · exact hap _ hgg hc2
        · have := hz.lt' g hc2
          omega
theorem Apt.nil (v : Value) : Apt (.slice none 0 0) v := fun b h => by simp [Value.ownBlock] at h
end Go.Proofs.Ytildhebaikeknaa
