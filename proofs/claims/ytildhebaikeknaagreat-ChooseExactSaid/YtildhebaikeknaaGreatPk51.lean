/- Several texts in one: Te18c, Te18d, Te18e, Te18f, Te18g, Te18h. -/
import Derived.Test.YtildhebaikeknaaGreatPk49
import Derived.Test.YtildhebaikeknaaGreatPk50
import Derived.Test.YtildhebaikeknaaGreatPk43
import Derived.StillTailTactics
import Derived.Test.YtildhebaikeknaaGreatPk32
import Derived.Test.YtildhebaikeknaaGreatPk3
/-! Te18c -/
namespace Go.Proofs.YtildhebaikeknaaGreat
open Go.RowKit
set_option linter.unusedVariables false

/-- l[i:] of tokens -/
theorem wpList_fromT {P : Program} (w : World) {ops : Array Oper} {rest : List Oper} {o : Oper} {a : Act} {Q : Exit → Act → World → Prop} (hgd : o.guard = none) (x lo : Operand) (t : TypeId)
    (ho : o.op = .slice t x (some lo) none none) (e : TypeId) (bytes : Nat) (z : Value) (ht : P.underlying t = some (.slice e)) (hinfo : (P.info? e).map (fun i => (i.zero, i.size, i.bytes)) = some (some z, 2, bytes))
    (v : Value) (xs : List (Int × Int)) (hx : a.eval x = v) (hs : Tk w v xs) (kk : IntKind) (i : Int) (hlo : a.eval lo = .int kk i) (h0 : 0 ≤ i) (h1 : i ≤ xs.length)
    (h : ∀ v', Tk w v' (xs.drop i.toNat) → wpList P ops Q rest (a.put o.dst v') w) : wpList P ops Q (o :: rest) a w := by
  obtain ⟨l, rfl⟩ := Int.eq_ofNat_of_zero_le h0
  rw [Int.toNat_natCast] at h
  obtain ⟨i, hi', hz0, hz1, hz2⟩ := info_parts hinfo
  obtain ⟨ad, cap, rfl, hl, hm, hc⟩ := hs
  have hrun : (Instr.sliceAt t (.slice ad xs.length cap) (some (.int kk (l : Int))) none none).run P w = .ok (.slice (if cap = l then ad else ad.map (·.add (l * 2))) (xs.length - l) (cap - l)) w := by
    have e1 : (0 : Int) ≤ (l : Int) ∧ (l : Int) ≤ (xs.length : Int) := by omega
    simp [Instr.sliceAt, Instr.slice, run_underlying ht, Instr.sliceBounds, Instr.sliceBound, asIntOf, sizeOf, typeInfo, hi', hz1, e1]
    intro hx; omega
  refine wpList_plain hgd fun K hK => ?_
  unfold Oper.wp
  simp [execOp, ho, hx, hlo, hrun, Result.andThen]
  refine hK _ _ (h _ ?_)
  have hlen : (xs.drop l).length = xs.length - l := by simp
  rcases hc with hc0 | ⟨b, off, rfl, hbb, hc⟩
  · exact ⟨_, cap - l, by rw [hlen], by rw [hlen]; omega, by omega, .inl (by omega)⟩
  · refine ⟨_, cap - l, by rw [hlen], by rw [hlen]; omega, by omega, ?_⟩
    by_cases h0 : cap = l
    · exact .inl (by omega)
    · refine .inr ⟨b, off + l * 2, by rw [if_neg h0]; simp [Addr.add], fun h0 => hbb (by rw [hlen] at h0; omega), fun j hj => ?_⟩
      rw [hlen] at hj
      have hg : (xs.drop l).getD j (0, 0) = xs.getD (l + j) (0, 0) := by simp only [List.getD_eq_getElem?_getD, List.getElem?_drop]
      rw [hg, show off + l * 2 + j * 2 = off + (l + j) * 2 by omega]
      exact hc (l + j) (by omega)
theorem Tk.at {w : World} {v : Value} {l : List (Int × Int)} (h : Tk w v l) (h0 : 0 < l.length) : ∃ b o c, v = .slice (some ⟨b, o, none⟩) l.length c ∧ b < w.heap.size ∧ ∀ i, i < l.length →
      w.cell? ⟨b, o + i * 2, none⟩ = some (.int .i64 (l.getD i (0, 0)).1) ∧ w.cell? ⟨b, o + i * 2 + 1, none⟩ = some (.int .i64 (l.getD i (0, 0)).2) := by
  obtain ⟨a, c, rfl, hl, -, h⟩ := h
  rcases h with rfl | ⟨b, o, rfl, hb, h⟩
  · omega
  · exact ⟨b, o, c, rfl, hb h0, h⟩
theorem Box.four {t : TypeId} {a b c d : Value} {B : Nat} {w : World} (h : Box t [a, b, c, d] B w) (x y z u : Value) : Box t [x, y, z, u] B ((((w.setCell ⟨B, 0, none⟩ x).setCell ⟨B, 1, none⟩ y).setCell ⟨B, 2, none⟩ z).setCell ⟨B, 3, none⟩ u) :=
  (((h.set 0 x).set 1 y).set 2 z).set 3 u
theorem below_four {base B : Nat} {a b c d : Value} {w0 w : World} (h : Below base w0 w) (hB : base ≤ B) : Below base w0 ((((w.setCell ⟨B, 0, none⟩ a).setCell ⟨B, 1, none⟩ b).setCell ⟨B, 2, none⟩ c).setCell ⟨B, 3, none⟩ d) :=
  (((h.setCell hB _).setCell hB _).setCell hB _).setCell hB _
/-- the first unit, how many tokens it has; or an error -/
def nxS : List (Int × Int) → (Int × Int) × (Int × Int) × Nat × Int
  | [] => ((0, 0), (0, 0), 0, 0)
  | [t] => if isAcc t = true then ((0, 0), (0, 0), 0, 2) else (t, (0, 0), 1, 0)
  | t :: n :: _ => if isAcc t = true then (t, n, 2, 0) else (t, (0, 0), 1, 0)
def NxU (x : (Int × Int) × (Int × Int) × Nat × Int) : Ending := .returned (.tuple #[.agg #[.int .i64 x.1.1, .int .i64 x.1.2, .int .i64 x.2.1.1, .int .i64 x.2.1.2], .int .i64 (x.2.2.1 : Int), .int .i64 x.2.2.2])
end Go.Proofs.YtildhebaikeknaaGreat

/-! Te18d -/
namespace Go.Proofs.YtildhebaikeknaaGreat
open Go.RowKit
set_option linter.unusedVariables false

/-- what was read of so many tokens, ahead of what the others mean -/
def aheadM (q : Nat) (s : List Int) : List Int ⊕ (Nat × Int) → List Int ⊕ (Nat × Int)
  | .inl l => .inl (s ++ l)
  | .inr (i, e) => .inr (q + i, e)
theorem aheadM_cons (q : Nat) (s : List Int) (k : Nat) (c : Int) (x : List Int ⊕ (Nat × Int)) : aheadM q s (consM k c x) = aheadM (q + k) (s ++ [c]) x := by
  cases x with
  | inl l => simp [aheadM, consM]
  | inr y => obtain ⟨i, e⟩ := y; simp [aheadM, consM, Nat.add_assoc]
theorem aheadM_nil (x : List Int ⊕ (Nat × Int)) : aheadM 0 [] x = x := by
  cases x with
  | inl l => simp [aheadM]
  | inr y => obtain ⟨i, e⟩ := y; simp [aheadM]
theorem acc_no {p : Int} (h : (markS p).2.2 = true) : (getS16 103 p).2 = false := by
  unfold markS at h
  obtain ⟨h1, h2⟩ := fndS_tt (p := fun r : Rg => r.f == p) (l := tabAccents) h
  have h3 : (fndS (fun r => r.f == p) tabAccents).1.f = p := by simpa using h2
  have := (acc_row h1).2.1
  rwa [h3] at this
def inT (t : Int × Int) : Prop := inI t.1 = true ∧ inI t.2 = true
theorem inT_zero : inT (0, 0) := ⟨by decide, by decide⟩
theorem mean_step (t : Int × Int) (R : List (Int × Int)) (hi : ∀ x ∈ t :: R, inT x) {u b : Int × Int} {k : Nat} {e : Int} (h : nxS (t :: R) = (u, b, k, e)) :
    (e = 2 ∧ meanS (t :: R) = .inr (0, 2)) ∨ (e = 0 ∧ 1 ≤ k ∧ k ≤ (t :: R).length ∧ inT u ∧ inT b ∧ ∀ c ok, uniS u b = (c, ok) → meanS (t :: R) = if ok = true then consM k c (meanS ((t :: R).drop k)) else .inr (0, 13)) := by
  have ht := hi t (by simp)
  cases hA : isAcc t with
  | false =>
    have e1 : nxS (t :: R) = (t, (0, 0), 1, 0) := by cases R <;> simp [nxS, hA]
    rw [e1] at h
    simp only [Prod.mk.injEq] at h
    obtain ⟨rfl, rfl, rfl, rfl⟩ := h
    refine .inr ⟨rfl, Nat.le_refl _, by simp, ht, inT_zero, fun c ok hc => ?_⟩
    unfold uniS at hc
    rw [if_neg (by rw [hA]; decide)] at hc
    have e2 : ¬ (t.1 = 103 ∧ (markS t.2).2.2 = true) := by
      rintro ⟨a1, a2⟩
      unfold isAcc at hA
      rw [a1, a2] at hA
      exact absurd hA (by decide)
    by_cases h0 : t.1 = 0
    · rw [if_pos h0] at hc
      simp only [Prod.mk.injEq] at hc
      obtain ⟨rfl, rfl⟩ := hc
      rw [if_pos rfl, mean_one R (.inl ⟨h0, rfl⟩)]
      rfl
    · rw [if_neg h0] at hc
      cases ok with
      | true => rw [if_pos rfl, mean_one R (.inr ⟨h0, hc⟩)]; rfl
      | false =>
        rw [if_neg (by simp)]
        cases R with
        | nil => simp only [meanS, if_neg h0, hc, if_neg e2, Bool.false_eq_true, if_false]
        | cons n q => simp only [meanS, if_neg h0, hc, if_neg e2, Bool.false_eq_true, if_false]
  | true =>
    obtain ⟨a1, a2⟩ : t.1 = 103 ∧ (markS t.2).2.2 = true := by
      unfold isAcc at hA
      simpa using hA
    have a0 : ¬ t.1 = 0 := by omega
    have a3 : (getS16 t.1 t.2).2 = false := by rw [a1]; exact acc_no a2
    cases R with
    | nil =>
      have e1 : nxS [t] = ((0, 0), (0, 0), 0, 2) := by simp [nxS, hA]
      rw [e1] at h
      simp only [Prod.mk.injEq] at h
      obtain ⟨rfl, rfl, rfl, rfl⟩ := h
      exact .inl ⟨rfl, by simp only [meanS, if_neg a0, a3, if_pos (And.intro a1 a2), Bool.false_eq_true, if_false]⟩
    | cons n q =>
      have e1 : nxS (t :: n :: q) = (t, n, 2, 0) := by simp [nxS, hA]
      rw [e1] at h
      simp only [Prod.mk.injEq] at h
      obtain ⟨rfl, rfl, rfl, rfl⟩ := h
      refine .inr ⟨rfl, by omega, by simp, ht, hi n (by simp), fun c ok hc => ?_⟩
      unfold uniS accd at hc
      rw [if_pos hA] at hc
      have ed : (t :: n :: q).drop 2 = q := rfl
      rw [ed]
      simp only [meanS, if_neg a0, a3, if_pos (And.intro a1 a2), Bool.false_eq_true, if_false]
      by_cases hn : n = (0, 32)
      · rw [if_pos hn] at hc
        simp only [Prod.mk.injEq] at hc
        obtain ⟨rfl, rfl⟩ := hc
        rw [if_pos (by rw [hn]; exact ⟨rfl, rfl⟩), if_pos rfl]
      · rw [if_neg hn] at hc
        rw [if_neg (fun h => hn (Prod.ext h.1 h.2))]
        have eh : (n.1 = 102 ∨ n.1 = 6) ↔ hasL n.1 = true := by unfold hasL; simp
        unfold letOf at hc
        by_cases b1 : hasL n.1 = true
        · rw [if_pos b1] at hc
          by_cases b2 : (getS16 n.1 n.2).2 = true
          · rw [if_pos b2] at hc
            by_cases b3 : letB (getS16 n.1 n.2).1 = true
            · rw [if_pos b3] at hc
              simp only [if_true] at hc
              rw [hc]
              cases ok with
              | true => rw [if_pos ⟨eh.2 b1, b2, b3, rfl⟩, if_pos rfl]
              | false => rw [if_neg (fun h => by cases h.2.2.2), if_neg (by simp)]
            · rw [if_neg b3] at hc
              simp only [Bool.false_eq_true, if_false, Prod.mk.injEq] at hc
              rw [if_neg (fun h => b3 h.2.2.1), if_neg (by rw [← hc.2]; simp)]
          · rw [if_neg b2] at hc
            simp only [Bool.false_eq_true, if_false, Prod.mk.injEq] at hc
            rw [if_neg (fun h => b2 h.2.1), if_neg (by rw [← hc.2]; simp)]
        · rw [if_neg b1] at hc
          simp only [Bool.false_eq_true, if_false, Prod.mk.injEq] at hc
          rw [if_neg (fun h => b1 (eh.1 h.1)), if_neg (by rw [← hc.2]; simp)]

theorem own_nomapI {M e base : Nat} {w : World} {k : IntKind} {es : Array MapEntry} {clock : Nat} {v : Value} {xs : List Int} (hm : w.heap[M]? = some (.map es clock)) (ho : Own k e base w v xs) : v.ownBlock ≠ some M := fun e => by
  rcases ho.2 with ⟨rfl, -⟩ | ⟨g, cap, cur, rfl, -, hh, -⟩
  · simp [Value.ownBlock] at e
  · have e' : g = M := by simpa [Value.ownBlock] using e
    subst e'
    rw [hm] at hh
    cases hh
theorem MapU.apart {M e base : Nat} {w : World} {k : IntKind} {v : Value} {xs : List Int} (h : MapU M w) (ho : Own k e base w v xs) : v.ownBlock ≠ Option.some M := by
  obtain ⟨es, clock, hm, -⟩ := h
  exact own_nomapI hm ho
theorem MapU.grown {M e base : Nat} {w w' : World} {k : IntKind} {v : Value} {xs : List Int} (h : MapU M w) (ho : Own k e base w v xs) (hg : w.grownBy w' v.ownBlock) : MapU M w' :=
  h.same (hg.block M h.lt (fun e => h.apart ho e.symm))
theorem MapU.keeps {M e base : Nat} {w w' : World} {k : IntKind} {v : Value} {xs : List Int} (h : MapU M w) (ho : Own k e base w v xs) (hg : w.grownBy w' (Option.some M)) : Own k e base w' v xs :=
  World.ownsRow.kept ho hg (.inr (h.apart ho))
end Go.Proofs.YtildhebaikeknaaGreat

/-! Te18e -/
namespace Go.Proofs.YtildhebaikeknaaGreat
open Go.RowKit
set_option linter.unusedVariables false

theorem inI_small {x : Int} (h0 : -100000 ≤ x) (h1 : x ≤ 100000) : inI x = true := by
  unfold inI
  rw [decide_eq_true_iff]
  omega
theorem fndI_in (p : Int → Bool) : ∀ l : List Int, (∀ x ∈ l, inI x = true) → inI (fndI p l).1 = true
  | [], _ => (show inI 0 = true by decide)
  | x :: l, h => by
    unfold fndI
    split
    · exact h x (by simp)
    · exact fndI_in p l fun y hy => h y (by simp [hy])
theorem byFin_in (f : Int) (wide : Bool) : inI (byFinS f wide).1 = true := fndI_in _ _ (by decide)
theorem pl_in {set : Int} (hs : inI set = true) {b : List Int} (hu : U8 b) {t : Int × Int} {n : Nat} (h : plS set b = .inl (t, n)) : inT t := by
  match b with
  | [] => cases h
  | c :: r =>
    obtain ⟨c0, c1⟩ := hu c (by simp)
    have hsd : sdS c = 0 ∨ sdS c = 128 := by unfold sdS; split <;> simp
    revert h
    simp only [plS]
    split
    · rename_i hc
      split
      · intro h; cases h
      · split
        · intro h
          simp only [Sum.inl.injEq, Prod.mk.injEq] at h
          obtain ⟨rfl, -⟩ := h
          exact ⟨hs, inI_small (by omega) (by omega)⟩
        · cases r with
          | nil => intro h; cases h
          | cons d q =>
            simp only
            split
            · rename_i hd
              intro h
              simp only [Sum.inl.injEq, Prod.mk.injEq] at h
              obtain ⟨rfl, -⟩ := h
              exact ⟨hs, inI_small (by omega) (by omega)⟩
            · intro h; cases h
    · intro h; cases h
theorem set_in {l : List Int} (h : ∀ x ∈ l, inI x = true) {i : Nat} {v : Int} (hv : inI v = true) : ∀ x ∈ l.set i v, inI x = true := fun x hx => by
  rcases List.mem_or_eq_of_mem_set hx with hx | rfl
  · exact h x hx
  · exact hv
theorem es_in {st s : Rd} (hg : ∀ x ∈ st.g, inI x = true) {b : List Int} {n : Nat} (h : esS st b = .inl (s, n)) : ∀ x ∈ s.g, inI x = true := by
  match b with
  | [] => cases h
  | c :: r =>
    revert h
    simp only [esS]
    repeat' split
    all_goals (first | (intro h; cases h; done) | (intro h; simp only [Sum.inl.injEq, Prod.mk.injEq] at h; obtain ⟨rfl, -⟩ := h; first | exact hg | exact set_in hg (byFin_in _ _)))
theorem getD_in {l : List Int} (h : ∀ x ∈ l, inI x = true) (i : Nat) : inI (l.getD i 0) = true := by
  rw [List.getD_eq_getElem?_getD]
  cases hi : l[i]? with
  | none => decide
  | some x => exact h x (List.mem_of_getElem? hi)
theorem tkS_in {st s : Rd} (hg : ∀ x ∈ st.g, inI x = true) {b : List Int} (hu : U8 b) {ts : List (Int × Int)} {n : Nat} (h : tkS st b = .inl (ts, n, s)) : (∀ t ∈ ts, inT t) ∧ (∀ x ∈ s.g, inI x = true) ∧ ts.length ≤ 1 := by
  match b with
  | [] => cases h
  | c :: r =>
    obtain ⟨c0, c1⟩ := hu c (by simp)
    revert h
    simp only [tkS]
    split
    · intro h
      simp only [Sum.inl.injEq, Prod.mk.injEq] at h
      obtain ⟨rfl, -, rfl⟩ := h
      exact ⟨fun t ht => by rw [List.mem_singleton.1 ht]; exact ⟨(show inI 0 = true by decide), inI_small (by omega) (by omega)⟩, hg, by simp⟩
    · split
      · intro h
        simp only [Sum.inl.injEq, Prod.mk.injEq] at h
        obtain ⟨rfl, -, rfl⟩ := h
        exact ⟨(fun t ht => by cases ht), hg, by simp⟩
      · split
        · cases he : esS st r with
          | inr e => intro h; cases h
          | inl y =>
            obtain ⟨s', n'⟩ := y
            intro h
            simp only [Sum.inl.injEq, Prod.mk.injEq] at h
            obtain ⟨rfl, -, rfl⟩ := h
            exact ⟨(fun t ht => by cases ht), es_in hg he, by simp⟩
        · split
          · generalize hp : plS (st.g.getD (if c = 29 then 3 else 2) 0) r = P
            cases P with
            | inr e => intro h; cases h
            | inl y =>
              obtain ⟨t', n'⟩ := y
              intro h
              simp only [Sum.inl.injEq, Prod.mk.injEq] at h
              obtain ⟨rfl, -, rfl⟩ := h
              exact ⟨fun t ht => by rw [List.mem_singleton.1 ht]; exact pl_in (getD_in hg _) hu.tail hp, hg, by simp⟩
          · split
            · generalize hp : plS (st.g.getD (if 126 < c then st.right else st.left) 0) (c :: r) = P
              cases P with
              | inr e => intro h; cases h
              | inl y =>
                obtain ⟨t', n'⟩ := y
                intro h
                simp only [Sum.inl.injEq, Prod.mk.injEq] at h
                obtain ⟨rfl, -, rfl⟩ := h
                exact ⟨fun t ht => by rw [List.mem_singleton.1 ht]; exact pl_in (getD_in hg _) hu hp, hg, by simp⟩
            · intro h; cases h
theorem tkF_in : ∀ (f : Nat) (st s : Rd) (b : List Int) (l : List (Int × Int)), (∀ x ∈ st.g, inI x = true) → U8 b → tkF f st b = .inl (l, s) → (∀ t ∈ l, inT t) ∧ l.length ≤ b.length
  | 0, st, s, b, l, hg, hu, h => by
    have h' : (Sum.inl ([], st) : (List (Int × Int) × Rd) ⊕ (Nat × Int)) = .inl (l, s) := by cases b <;> exact h
    simp only [Sum.inl.injEq, Prod.mk.injEq] at h'
    obtain ⟨rfl, -⟩ := h'
    exact ⟨(fun t ht => by cases ht), by simp⟩
  | f + 1, st, s, b, l, hg, hu, h => by
    by_cases hb : b = []
    · subst hb
      rw [tkF_nil] at h
      simp only [Sum.inl.injEq, Prod.mk.injEq] at h
      obtain ⟨rfl, -⟩ := h
      exact ⟨(fun t ht => by cases ht), by simp⟩
    · rw [tkF_step hb] at h
      generalize ht : tkS st b = T at h
      cases T with
      | inr e => cases h
      | inl y =>
        obtain ⟨ts, n, s1⟩ := y
        obtain ⟨h1, h2, h3⟩ := tkS_in hg hu ht
        obtain ⟨n0, n1⟩ := tk_ok ht
        simp only at h
        generalize hr : tkF f s1 (b.drop n) = T at h
        cases T with
        | inr e => obtain ⟨i, e⟩ := e; cases h
        | inl y =>
          obtain ⟨m, z⟩ := y
          simp only [Sum.inl.injEq, Prod.mk.injEq] at h
          obtain ⟨rfl, -⟩ := h
          obtain ⟨h4, h5⟩ := tkF_in f s1 z (b.drop n) m h2 (hu.drop n) hr
          refine ⟨fun t ht => ?_, ?_⟩
          · rcases List.mem_append.1 ht with ht | ht
            · exact h1 t ht
            · exact h4 t ht
          · rw [List.length_append]
            rw [List.length_drop] at h5
            omega
theorem tok_at18 {b : List Int} {i : Nat} {e : Int} (h : tokS b = .inr (i, e)) : e ≠ 0 := by
  unfold tokS at h
  cases ht : tkF b.length rd0 b with
  | inl x => rw [ht] at h; cases h
  | inr x =>
    rw [ht] at h
    cases h
    exact tkF_err _ _ _ _ _ ht
theorem tok_in {b : List Int} (hu : U8 b) {l : List (Int × Int)} (h : tokS b = .inl l) : (∀ t ∈ l, inT t) ∧ l.length ≤ b.length := by
  unfold tokS at h
  generalize ht : tkF b.length rd0 b = T at h
  cases T with
  | inr x => cases h
  | inl y =>
    obtain ⟨m, s⟩ := y
    simp only [Sum.inl.injEq] at h
    subst h
    exact tkF_in _ _ _ _ _ (by decide) hu ht

end Go.Proofs.YtildhebaikeknaaGreat

/-! Te18f -/
namespace Go.Proofs.YtildhebaikeknaaGreat
open Go.RowKit
set_option linter.unusedVariables false

theorem teIsByte (c : Int) (w : World) : Calls Tryz.prog 65 #[.int .i64 c] w fun e w' => e = .returned (.bool (ctlB c)) ∧ w = w' := by
  by_cases h8 : c = 8
  · subst h8
    go_enter Tryz.func65, Tryz.ntmps65
    go_wp2
    go_ret
    exact ⟨rfl, rfl⟩
  by_cases h10 : c = 10
  · subst h10
    go_enter Tryz.func65, Tryz.ntmps65
    go_wp2
    go_ret
    exact ⟨rfl, rfl⟩
  by_cases h12 : c = 12
  · subst h12
    go_enter Tryz.func65, Tryz.ntmps65
    go_wp2
    go_ret
    exact ⟨rfl, rfl⟩
  by_cases h13 : c = 13
  · subst h13
    go_enter Tryz.func65, Tryz.ntmps65
    go_wp2
    go_ret
    exact ⟨rfl, rfl⟩
  by_cases h32 : c = 32
  · subst h32
    go_enter Tryz.func65, Tryz.ntmps65
    go_wp2
    go_ret
    exact ⟨rfl, rfl⟩
  have HR := hid (show ctlB c = false from by unfold ctlB; simp [h8, h10, h12, h13, h32])
  have t8 : (c == 8) = false := by simpa using h8
  have t10 : (c == 10) = false := by simpa using h10
  have t12 : (c == 12) = false := by simpa using h12
  have t13 : (c == 13) = false := by simpa using h13
  have t32 : (c == 32) = false := by simpa using h32
  go_enter Tryz.func65, Tryz.ntmps65
  go_wp2
  go_ret
  exact ⟨by rw [HR.out]; rfl, rfl⟩
theorem u8_same {x : Int} (h0 : 0 ≤ x) (h1 : x ≤ 255) : IntKind.u8.wrap x = x := by simp only [IntKind.wrap, IntKind.bits, IntKind.signed]; simp; omega
/-- a position of a set: its byte, its two bytes -/
theorem teCharacter {r : Rg} (hr : r ∈ tabCodes) (w : World) : Calls Tryz.prog 67 #[.int .i64 r.f, .int .i64 r.t] w fun e w' => ∃ x, e = .returned x ∧ Own .u8 5 w.heap.size w' x (bytP r.t) ∧ Below w.heap.size w w' := by
  obtain ⟨-, -, h87, h1, h2, h0, -⟩ := code_row hr
  have HW := hid (fun w => csWide r.f w)
  rw [h87] at HW
  unfold bytP
  generalize r.t = p at *
  generalize r.f = s at *
  obtain ⟨a1, a2⟩ := h1
  by_cases hw : 255 < p
  · rw [decide_eq_true hw] at HW
    rw [if_pos hw]
    have h3 : 33 ≤ p / 256 ∧ p / 256 ≤ 126 := by omega
    obtain ⟨b1, b2⟩ := h3
    have HO := hid (lit_own (k := .u8) (w := w) (base := w.heap.size) (e := 5) (xs := [p / 256, p % 256]) (n := w.heap.size) (len := 2) (cs := #[.int .u8 (p / 256), .int .u8 (p % 256)]) rfl (Nat.le_refl _) rfl rfl (by simp))
    clear h87 h2
    go_enter Tryz.func67, Tryz.ntmps67
    go_wp2_with (go_at_call 81; refine (HW.out _).mono ?_; rintro e wl ⟨rfl, rfl⟩)
    go_ret
    exact ⟨_, rfl, HO.out, by (repeat (first | exact Below.refl _ _ | exact below_drewN _ | refine Below.drew ?_ | refine Below.alloc ?_ (by simp) _ | refine Below.setCell ?_ (by simp) _ | refine below_drewN' ?_ _))⟩
  · rw [decide_eq_false hw] at HW
    rw [if_neg hw]
    have h3 : p ≤ 126 := by omega
    have h4 : p % 256 = p := by omega
    have HO := hid (lit_own (k := .u8) (w := w) (base := w.heap.size) (e := 5) (xs := [p]) (n := w.heap.size) (len := 1) (cs := #[.int .u8 p]) rfl (Nat.le_refl _) rfl rfl (by simp))
    clear h87 h2 h4 a1 a2
    go_enter Tryz.func67, Tryz.ntmps67
    go_wp2_with (go_at_call 81; refine (HW.out _).mono ?_; rintro e wl ⟨rfl, rfl⟩)
    go_ret
    exact ⟨_, rfl, HO.out, by (repeat (first | exact Below.refl _ _ | exact below_drewN _ | refine Below.drew ?_ | refine Below.alloc ?_ (by simp) _ | refine Below.setCell ?_ (by simp) _ | refine below_drewN' ?_ _))⟩
theorem esc_ok {s : Int} (h : s ∈ tabSets ++ [103]) : escE 0 s = 0 ∧ escL 0 s = escP 0 s := by
  have h1 := (fin_of h).2.1
  have e : escE 0 s = 0 := by unfold escE; rw [if_pos (by omega), if_neg (by omega)]
  exact ⟨e, by unfold escL; rw [if_pos e]⟩
theorem teDesignation (HE : ShEscOk) {s : Int} (hs : s ∈ tabSets ++ [103]) (w : World) : Calls Tryz.prog 86 #[.int .i64 s] w fun e w' => ∃ x, e = .returned x ∧ Own .u8 5 w.heap.size w' x (escP 0 s) ∧ Below w.heap.size w w' := by
  have HX := hid (fun w => HE 0 s w (by decide) (set_inI hs))
  rw [(esc_ok hs).1, (esc_ok hs).2] at HX
  clear HE hs
  go_enter Tryz.func86, Tryz.ntmps86
  go_wp2_with (go_at_call 100; refine (HX.out _).mono ?_; rintro e w1 ⟨v1, rfl, ho1, hb1⟩; have HO1 := hid ho1; have HB1 := hid hb1; clear ho1 hb1)
  go_ret
  exact ⟨_, rfl, HO1.out, HB1.out⟩
theorem loadPc {a b : Value} {B : Nat} {w : World} (h : Box 81 [a, b] B w) : (loadVar 81 ⟨B, 0, none⟩).run Tryz.prog w = .ok (.agg #[a, b]) w := by
  have k0 := h.cell 0
  have k1 := h.cell 1
  simp only [List.getElem?_cons_zero, List.getElem?_cons_succ] at k0 k1
  simp [go_sem, k0, k1]
theorem far_two {k : IntKind} {e base B : Nat} {w : World} {v : Value} {xs : List Int} {t : TypeId} {cs : List Value} (h : Own k e base w v xs) (hb : Box t cs B w) (ht : t ≠ e) (x y : Value) : Own k e base ((w.setCell ⟨B, 0, none⟩ x).setCell ⟨B, 1, none⟩ y) v xs :=
  (h.set hb ht 0 x).set (hb.set 0 x) ht 1 y
set_option maxHeartbeats 2000000 in
/-- what is written for an accent and what takes it -/
theorem teWriteAccent (HE : ShEscOk) (c g p le : Int) (w : World) (hp0 : 0 ≤ p) (hp1 : p ≤ 127) (hl0 : 0 ≤ le) (hl1 : le ≤ 255) : Calls Tryz.prog 69 #[.agg #[.int .i64 c, .int .i64 g], .int .i64 p, .int .i64 le] w fun e w' =>
    ∃ x, e = .returned (.agg #[x, .int .i64 (if le = 32 ∨ g = 102 ∨ g = 6 then g else 102)]) ∧ Own .u8 5 w.heap.size w' x (if le = 32 ∨ g = 102 ∨ g = 6 then [p + 128, le] else escP 0 102 ++ [p + 128, le]) ∧ Below w.heap.size w w' := by
  have HH := hid (fun w => teHasLetters g w)
  have HD := hid (fun w => teDesignation HE (s := 102) (by decide) w)
  have HT := hid (Box.made w 79 [.int .i64 c, .int .i64 g])
  obtain ⟨B, hB⟩ : ∃ B, B = w.heap.size := ⟨_, rfl⟩
  have hu1 : IntKind.u8.wrap (p + 128) = p + 128 := u8_same (by omega) (by omega)
  have hu2 : IntKind.u8.wrap le = le := u8_same hl0 hl1
  have h31 : w.heap.size + 1 + 1 = ((w.alloc (.cells #[.int .i64 c, .int .i64 g] 79)).alloc (.cells #[.slice none 0 0, .int .i64 0] 81)).heap.size := by simp
  have HB3 := hid (show Below w.heap.size w (((w.alloc (.cells #[.int .i64 c, .int .i64 g] 79)).alloc (.cells #[.slice none 0 0, .int .i64 0] 81)).alloc (.cells #[.int .u8 (p + 128), .int .u8 le] 5)) from by (repeat (first | exact Below.refl _ _ | exact below_drewN _ | refine Below.drew ?_ | refine Below.alloc ?_ (by first | omega | (simp; done) | (simp; omega)) _ | refine Below.setCell ?_ (by first | (simp; done) | (simp; omega)) _ | refine below_drewN' ?_ _)))
  have HX3 := hid ((box_last w (.cells #[.int .i64 c, .int .i64 g] 79) 81 [.slice none 0 0, .int .i64 0]).alloc (.cells #[.int .u8 (p + 128), .int .u8 le] 5))
  have HS3 := hid (lit_own (k := .u8) (w := ((w.alloc (.cells #[.int .i64 c, .int .i64 g] 79)).alloc (.cells #[.slice none 0 0, .int .i64 0] 81))) (base := w.heap.size) (e := 5) (xs := [p + 128, le]) (n := w.heap.size + 1 + 1) (len := 2) (cs := #[.int .u8 (p + 128), .int .u8 le]) h31 (by simp; omega) rfl rfl (by simp)).sl
  have HOW := hid (fun g' => lit_own (k := .u8) (w := ((w.alloc (.cells #[.int .i64 c, .int .i64 g] 79)).alloc (.cells #[.slice (some ⟨w.heap.size + 1 + 1, 0, none⟩) 2 2, .int .i64 g'] 81))) (base := w.heap.size) (e := 5) (xs := [p + 128, le]) (n := w.heap.size + 1 + 1) (len := 2) (cs := #[.int .u8 (p + 128), .int .u8 le]) (by simp) (by simp; omega) rfl rfl (by simp))
  have HBW := hid (fun g' => ((box_last w (.cells #[.int .i64 c, .int .i64 g] 79) 81 [.slice (some ⟨w.heap.size + 1 + 1, 0, none⟩) 2 2, .int .i64 g']).alloc (.cells #[.int .u8 (p + 128), .int .u8 le] 5)))
  clear HE h31
  by_cases h1 : le = 32 ∨ g = 102 ∨ g = 6
  · rw [if_pos h1, if_pos h1]
    by_cases h2 : le = 32
    · subst h2
      clear h1 HH HD
      go_enter Tryz.func69, Tryz.ntmps69
      go_wp2_with (fail)
      exact bodyPost_ret (results_one rfl rfl (loadPc (HBW.out g))) rfl ⟨_, rfl, HOW.out g, by (repeat (first | exact Below.refl _ _ | exact below_drewN _ | refine Below.drew ?_ | refine Below.alloc ?_ (by first | omega | (simp; done) | (simp; omega)) _ | refine Below.setCell ?_ (by first | (simp; done) | (simp; omega)) _ | refine below_drewN' ?_ _))⟩
    · have e2 : (le == 32) = false := by simpa using h2
      have e3 : hasL g = true := by unfold hasL; rcases h1 with h1 | rfl | rfl; exact absurd h1 h2; rfl; rfl
      rw [e3] at HH
      clear h1 HD h2 e3
      go_enter Tryz.func69, Tryz.ntmps69
      go_wp2_with (go_at_call 85; refine (HH.out _).mono ?_; rintro e wh ⟨rfl, rfl⟩)
      exact bodyPost_ret (results_one rfl rfl (loadPc (HBW.out g))) rfl ⟨_, rfl, HOW.out g, by (repeat (first | exact Below.refl _ _ | exact below_drewN _ | refine Below.drew ?_ | refine Below.alloc ?_ (by first | omega | (simp; done) | (simp; omega)) _ | refine Below.setCell ?_ (by first | (simp; done) | (simp; omega)) _ | refine below_drewN' ?_ _))⟩
  · rw [if_neg h1, if_neg h1]
    have e2 : (le == 32) = false := by simp; omega
    have e3 : hasL g = false := by unfold hasL; simp; omega
    rw [e3] at HH
    have hE := esc_len 0 102
    have HL := hid hE
    generalize escP 0 102 = E at hE HL HD ⊢
    clear h1 e3
    go_enter Tryz.func69, Tryz.ntmps69
    go_wp2_with (first
      | (go_at_call 85; refine (HH.out _).mono ?_; rintro e wh ⟨rfl, rfl⟩)
      | (go_at_call 86; go_loud (refine (HD.out _).mono ?_; rintro e w4 ⟨v4, rfl, ho4, hb4⟩; have HO4 := hid (ho4.mono (show w.heap.size ≤ _ from by simp; omega)); have HX4 := hid (HX3.out.below hb4 HX3.out.lt); have HS4 := hid (HS3.out.below hb4); have HB4 := hid (HB3.out.trans (hb4.mono HB3.out.size)); clear ho4 hb4))
      | (at_builtin; go_loud (refine wpList_app _ rfl _ _ 42 rfl .u8 w.heap.size 5 1 Tryz.underlying42 Tryz.infoU8 v4 E [p + 128, le] rfl HO4.out _ rfl HS4.out (by unfold maxLen; simp; omega) (by simp; omega) (by have := HB4.out.size; omega) ?_; intro v5 w5 ho5 hg5 hb5 hn5; have HO5 := hid ho5; have HX5 := hid (HX4.out.grown HO4.out hg5 (by decide)); have HB5 := hid (HB4.out.trans hb5); obtain ⟨a5, c5, hv5⟩ := ho5.sl.form; obtain ⟨n5, hn5'⟩ : ∃ n, n = (E ++ [p + 128, le]).length := ⟨_, rfl⟩; rw [← hn5'] at hv5; subst hv5; have z0 := HX5.out.cell 0; have z1 := HX5.out.cell 1; have f0 := HX5.out.ice 0; have f1 := HX5.out.ice 1; simp only [List.getElem?_cons_zero, List.getElem?_cons_succ] at z0 z1; clear ho5 hg5 hb5 hn5 hn5')))
    exact bodyPost_ret (results_one rfl rfl (loadPc (HX5.out.two (.slice a5 n5 c5) (.int .i64 102)))) rfl ⟨_, rfl, far_two HO5.out HX5.out (by decide) _ _, below_two HB5.out (by omega)⟩
end Go.Proofs.YtildhebaikeknaaGreat

/-! Te18g -/
namespace Go.Proofs.YtildhebaikeknaaGreat
open Go.RowKit
set_option linter.unusedVariables false

def desS (c : Int) : Int × Bool := fndI (fun s => (findS16 s c).2) tabSets
theorem des_hit {c : Int} {k : Nat} (h : k < tabSets.length) (ha : ∀ i, i < k → (findS16 (tabSets.getD i 0) c).2 = false) (hk : (findS16 (tabSets.getD k 0) c).2 = true) : desS c = (tabSets.getD k 0, true) := fndI_hit (p := fun s => (findS16 s c).2) h ha hk
theorem des_none {c : Int} (ha : ∀ i, i < tabSets.length → (findS16 (tabSets.getD i 0) c).2 = false) : desS c = (0, false) := fndI_none (p := fun s => (findS16 s c).2) ha
set_option maxHeartbeats 4000000 in
set_option maxRecDepth 10000 in
theorem teWriteDesignated (HE : ShEscOk) (c : Int) (w : World) : Calls Tryz.prog 70 #[.int .i64 c] w fun e w' =>
    ∃ a n cp h, e = .returned (.tuple #[.agg #[.slice a n cp, .int .i64 h], .bool (desS c).2]) ∧ ((desS c).2 = true → h = (desS c).1 ∧ Own .u8 5 w.heap.size w' (.slice a n cp) (escP 0 (desS c).1 ++ bytP (findS16 (desS c).1 c).1)) ∧ Below w.heap.size w w' := by
  have HSE := hid (fun w => apiSets w)
  have HB0 := hid (show Below w.heap.size w (w.alloc (.cells #[.slice none 0 0, .int .i64 0] 81)) from by (repeat (first | exact Below.refl _ _ | exact below_drewN _ | refine Below.drew ?_ | refine Below.alloc ?_ (by first | omega | (simp; done) | (simp; omega)) _ | refine Below.setCell ?_ (by first | (simp; done) | (simp; omega)) _ | refine below_drewN' ?_ _)))
  have HX0 := hid (Box.made w 81 [.slice none 0 0, .int .i64 0])
  have HF := hid (fun s w => csFind s c w)
  have HHIT := hid (fun k (h : k < tabSets.length) ha hk => des_hit (c := c) (k := k) h ha hk)
  have HNON := hid (fun ha => des_none (c := c) ha)
  have HMEM := hid (show ∀ k, k < tabSets.length → tabSets.getD k 0 ∈ tabSets ++ [103] from fun k hk => by
    rw [List.getD_eq_getElem?_getD, List.getElem?_eq_getElem hk]
    exact List.mem_append_left _ (List.getElem_mem hk))
  generalize desS c = D at *
  generalize hT : tabSets = T at *
  have HTS := hid hT
  clear hT
  go_enter Tryz.func70, Tryz.ntmps70
  go_wp2_with (go_at_call 14; refine (HSE.out _).mono ?_; rintro e w1 ⟨v1, rfl, ho1, hb1⟩; have HS1 := hid ho1.sl; have HB1 := hid (HB0.out.trans (hb1.mono HB0.out.size)); have HX1 := hid (HX0.out.below hb1 HX0.out.lt); obtain ⟨a1, c1, hv1⟩ := ho1.sl.form; obtain ⟨n1, hn1⟩ : ∃ n1, n1 = T.length := ⟨_, rfl⟩; have HN := hid hn1; rw [← hn1] at hv1; subst hv1; have hml := ho1.sl.len; rw [← hn1] at hml; clear ho1 hb1 hn1)
  go_loopw [3, 10] (fun rv iv wr => ∃ (k : Nat), k ≤ n1 ∧ rv = .bool false ∧ iv = .int .i64 (k : Int) ∧ Hid (Sl .i64 wr (.slice a1 n1 c1) T) ∧ Hid (Box 81 [.slice none 0 0, .int .i64 0] w.heap.size wr) ∧ Hid (Below w.heap.size w wr) ∧ Hid (∀ i, i < k → (findS16 (T.getD i 0) c).2 = false)) (fun _ iv _ => n1 - (intOf iv).toNat)
  case atStart => exact ⟨0, Nat.zero_le _, rfl, rfl, HS1.out, HX1.out, HB1.out, fun i hi => absurd hi (by omega)⟩
  case round =>
    obtain ⟨k, hk, rfl, rfl, hs, hx, hbel, hno⟩ := hrel
    by_cases hlt : k < n1
    · have hs2 := hs.out
      obtain ⟨a', cap', hv', hl', hm', hc'⟩ := hs2
      injection hv' with hv1 hv2 hv3
      rcases hc' with hc' | ⟨b1, o1, hab, hb1, hc⟩
      · exact absurd hc' (by have := HN.out; omega)
      rw [hab] at hv1
      subst hv1
      have d1 := hc k (by have := HN.out; omega)
      have hms := HMEM.out k (by have := HN.out; omega)
      have HH := hid (fun ha => HHIT.out k (by have := HN.out; omega) hno.out ha)
      have HNX := hid (fun (h : (findS16 (T.getD k 0) c).2 = false) => (show ∀ i, i < k + 1 → (findS16 (T.getD i 0) c).2 = false from fun i hi => by
        rcases Nat.lt_or_ge i k with h1 | h1
        · exact hno.out i h1
        · obtain rfl : i = k := by omega
          exact h))
      clear hc hb1 hv2 hv3 hl' hm' hab
      have HDE := hid (fun w => teDesignation HE (s := T.getD k 0) (by rw [HTS.out]; exact hms) w)
      have HFK := hid (fun w => HF.out (T.getD k 0) w)
      generalize T.getD k 0 = s at d1 HH HNX HDE HFK
      obtain ⟨⟨p, ok⟩, hp⟩ : ∃ y, y = findS16 s c := ⟨_, rfl⟩
      rw [← hp] at HFK HH HNX
      simp only at HFK HH HNX
      have HP := hid hp.symm
      cases ok with
      | false =>
        clear hp HH HDE
        go_wp2_with (go_at_call 66; refine (HFK.out _).mono ?_; rintro e w2 ⟨rfl, hb2⟩; have HB2 := hid (hbel.out.trans (hb2.mono hbel.out.size)); have HX2 := hid (hx.out.below hb2 hx.out.lt); have HS2 := hid (hs.out.below hb2); clear hb2)
        go_roundw
        case rel => exact ⟨k + 1, by omega, rfl, by go_num, HS2.out, HX2.out, HB2.out, (by first | exact HNX.out rfl | exact HNX.out trivial)⟩
        case measure => simp [intOf]; omega
      | true =>
        obtain ⟨r, hr, hf, hv, ht⟩ := find_row hp.symm
        have HCH := hid (fun w => teCharacter hr w)
        rw [hf, ht] at HCH
        have HD := hid (HH.out rfl)
        have hE := esc_len 0 s
        have hY := byt_len p
        have HE0 := hid hE
        have HL := hid (show escP 0 s ++ bytP p = escP 0 D.1 ++ bytP (findS16 D.1 c).1 from by rw [HD.out, HP.out])
        generalize escP 0 s = E at HDE HL hE
        generalize bytP p = Y at HCH HL hY
        clear hp HH hr hf hv ht
        go_wp2_with (first
          | (go_at_call 66; refine (HFK.out _).mono ?_; rintro e w2 ⟨rfl, hb2⟩; have HB2 := hid (hbel.out.trans (hb2.mono hbel.out.size)); have HX2 := hid (hx.out.below hb2 hx.out.lt); clear hb2)
          | (go_at_call 86; go_loud (refine (HDE.out _).mono ?_; rintro e w3 ⟨v3, rfl, ho3, hb3⟩; have HO3 := hid (ho3.mono HB2.out.size); have HX3 := hid (HX2.out.below hb3 HX2.out.lt); have HB3 := hid (HB2.out.trans (hb3.mono HB2.out.size)); clear ho3 hb3))
          | (go_at_call 67; go_loud (refine (HCH.out _).mono ?_; rintro e w4 ⟨v4, rfl, ho4, hb4⟩; have HS4 := hid ho4.sl; have HO4 := hid (HO3.out.below hb4); have HX4 := hid (HX3.out.below hb4 HX3.out.lt); have HB4 := hid (HB3.out.trans (hb4.mono HB3.out.size)); clear ho4 hb4))
          | (at_builtin; go_loud (refine wpList_app _ rfl _ _ 42 rfl .u8 w.heap.size 5 1 Tryz.underlying42 Tryz.infoU8 v3 E Y rfl HO4.out v4 rfl HS4.out (by unfold maxLen; omega) (by omega) (by have := HB4.out.size; omega) ?_; intro v5 w5 ho5 hg5 hb5 hn5; have HO5 := hid ho5; have HX5 := hid (HX4.out.grown HO4.out hg5 (by decide)); have HB5 := hid (HB4.out.trans hb5); obtain ⟨a5, c5, hv5⟩ := ho5.sl.form; obtain ⟨n5, hn5'⟩ : ∃ n, n = (E ++ Y).length := ⟨_, rfl⟩; rw [← hn5'] at hv5; subst hv5; have z0 := HX5.out.cell 0; have z1 := HX5.out.cell 1; have f0 := HX5.out.ice 0; have f1 := HX5.out.ice 1; simp only [List.getElem?_cons_zero, List.getElem?_cons_succ] at z0 z1; clear ho5 hg5 hb5 hn5 hn5')))
        exact bodyPost_ret (results_two rfl rfl (loadPc (HX5.out.two (.slice a5 n5 c5) (.int .i64 s)))) rfl ⟨_, _, _, _, by rw [HD.out]; rfl, fun _ => ⟨by rw [HD.out], by rw [← HL.out]; exact far_two HO5.out HX5.out (by decide) _ _⟩, below_two HB5.out (by omega)⟩
    · obtain rfl : k = n1 := by omega
      have HD := hid (HNON.out (by rw [← HN.out]; exact hno.out))
      have HX5 := hid hx.out
      have z0 := HX5.out.cell 0
      have z1 := HX5.out.cell 1
      have f0 := HX5.out.ice 0
      have f1 := HX5.out.ice 1
      simp only [List.getElem?_cons_zero, List.getElem?_cons_succ] at z0 z1
      go_wp2
      exact bodyPost_ret (results_two rfl rfl (loadPc (HX5.out.two (.slice none 0 0) (.int .i64 0)))) rfl ⟨_, _, _, _, by rw [HD.out]; rfl, fun h => (by rw [HD.out] at h; cases h), below_two hbel.out (by omega)⟩
end Go.Proofs.YtildhebaikeknaaGreat

/-! Te18h -/
namespace Go.Proofs.YtildhebaikeknaaGreat
open Go.RowKit
set_option linter.unusedVariables false

theorem ctl_u8 {c : Int} (h : ctlB c = true) : 0 ≤ c ∧ c ≤ 255 := by
  unfold ctlB at h
  simp only [Bool.or_eq_true, beq_iff_eq] at h
  omega
set_option maxHeartbeats 4000000 in
set_option maxRecDepth 100000 in
theorem teWrite1 (c g : Int) (w : World) (h1 : ctlB c = true) : Calls Tryz.prog 47 #[.agg #[.int .i64 c, .int .i64 g]] w fun e w' => ∃ a n cp h, e = .returned (.tuple #[.agg #[.slice a n cp, .int .i64 h], .bool (some ([c], g)).isSome]) ∧ (∀ bs h', (some ([c], g)) = some (bs, h') → h = h' ∧ Own .u8 5 w.heap.size w' (.slice a n cp) bs) ∧ Below w.heap.size w w' := by
  have HB0 := hid (show Below w.heap.size w ((w.alloc (.cells #[.int .i64 c, .int .i64 g] 79)).alloc (.cells #[.slice none 0 0, .int .i64 0] 81)) from by (repeat (first | exact Below.refl _ _ | exact below_drewN _ | refine Below.drew ?_ | refine Below.alloc ?_ (by first | omega | (simp; done) | (simp; omega)) _ | refine Below.setCell ?_ (by first | (simp; done) | (simp; omega)) _ | refine below_drewN' ?_ _)))
  have HT0 := hid ((Box.made w 79 [.int .i64 c, .int .i64 g]).alloc (.cells #[.slice none 0 0, .int .i64 0] 81))
  have HX0 := hid (box_last w (.cells #[.int .i64 c, .int .i64 g] 79) 81 [.slice none 0 0, .int .i64 0])
  have HI := hid (fun w => teIsByte c w)
  rw [h1] at HI
  obtain ⟨u0, u1⟩ := ctl_u8 h1
  have hu := u8_same u0 u1
  have HOW := hid (fun o => lit_own (k := .u8) (w := ((w.alloc (.cells #[.int .i64 c, .int .i64 g] 79)).alloc o)) (base := w.heap.size) (e := 5) (xs := [c]) (n := w.heap.size + 1 + 1) (len := 1) (cs := #[.int .u8 c]) (by simp) (by simp; omega) rfl rfl (by simp))
  have HBW := hid ((box_last w (.cells #[.int .i64 c, .int .i64 g] 79) 81 [.slice (some ⟨w.heap.size + 1 + 1, 0, none⟩) 1 1, .int .i64 g]).alloc (.cells #[.int .u8 c] 5))
  clear h1
  go_enter Tryz.func47, Tryz.ntmps47
  go_wp2_with (go_at_call 65; refine (HI.out _).mono ?_; rintro e wi ⟨rfl, rfl⟩)
  refine bodyPost_ret (results_two rfl rfl (loadPc HBW.out)) rfl ⟨_, _, _, _, rfl, fun bs h' h => ?_, by (repeat (first | exact Below.refl _ _ | exact below_drewN _ | refine Below.drew ?_ | refine Below.alloc ?_ (by first | omega | (simp; done) | (simp; omega)) _ | refine Below.setCell ?_ (by first | (simp; done) | (simp; omega)) _ | refine below_drewN' ?_ _))⟩
  simp only [Option.some.injEq, Prod.mk.injEq] at h
  obtain ⟨rfl, rfl⟩ := h
  exact ⟨rfl, HOW.out _⟩
set_option maxHeartbeats 4000000 in
set_option maxRecDepth 100000 in
theorem teWrite2 (c g p : Int) (w : World) (h1 : ctlB c = false) (h2 : findS16 g c = (p, true)) : Calls Tryz.prog 47 #[.agg #[.int .i64 c, .int .i64 g]] w fun e w' => ∃ a n cp h, e = .returned (.tuple #[.agg #[.slice a n cp, .int .i64 h], .bool (some (bytP p, g)).isSome]) ∧ (∀ bs h', (some (bytP p, g)) = some (bs, h') → h = h' ∧ Own .u8 5 w.heap.size w' (.slice a n cp) bs) ∧ Below w.heap.size w w' := by
  have HB0 := hid (show Below w.heap.size w ((w.alloc (.cells #[.int .i64 c, .int .i64 g] 79)).alloc (.cells #[.slice none 0 0, .int .i64 0] 81)) from by (repeat (first | exact Below.refl _ _ | exact below_drewN _ | refine Below.drew ?_ | refine Below.alloc ?_ (by first | omega | (simp; done) | (simp; omega)) _ | refine Below.setCell ?_ (by first | (simp; done) | (simp; omega)) _ | refine below_drewN' ?_ _)))
  have HT0 := hid ((Box.made w 79 [.int .i64 c, .int .i64 g]).alloc (.cells #[.slice none 0 0, .int .i64 0] 81))
  have HX0 := hid (box_last w (.cells #[.int .i64 c, .int .i64 g] 79) 81 [.slice none 0 0, .int .i64 0])
  have HI := hid (fun w => teIsByte c w)
  rw [h1] at HI
  have HF1 := hid (fun w => csFind g c w)
  rw [h2] at HF1
  obtain ⟨r, hr, hf, hv, ht⟩ := find_row h2
  have HC := hid (fun w => teCharacter hr w)
  rw [hf, ht] at HC
  generalize bytP p = Y at HC ⊢
  clear h1 h2 hr hf hv ht
  go_enter Tryz.func47, Tryz.ntmps47
  go_wp2_with (first | (go_at_call 65; refine (HI.out _).mono ?_; rintro e wi ⟨rfl, rfl⟩) | (go_at_call 66; refine (HF1.out _).mono ?_; rintro e w1 ⟨rfl, hb1⟩; have HB1 := hid (HB0.out.trans (hb1.mono HB0.out.size)); have HT1 := hid (HT0.out.below hb1 HT0.out.lt); have HX1 := hid (HX0.out.below hb1 HX0.out.lt); have x0 := HT1.out.cell 0; have x1 := HT1.out.cell 1; simp only [List.getElem?_cons_zero, List.getElem?_cons_succ] at x0 x1; have z0 := HX1.out.cell 0; have z1 := HX1.out.cell 1; have f0 := HX1.out.ice 0; have f1 := HX1.out.ice 1; simp only [List.getElem?_cons_zero, List.getElem?_cons_succ] at z0 z1; clear hb1))
  have HGq := hid (grow_below (Below.refl w1.heap.size w1).drew (some (w.heap.size + 1)))
  have HBq := hid (Below.refl w1.heap.size w1).drew
  have HXq := hid (HX1.out.below HBq.out HX1.out.lt)
  have HGS := hid (fun w' (hg : w1.grownBy w' (some (w.heap.size + 1))) => (show w'.cell? ⟨w.heap.size, 0, none⟩ = some (.int .i64 c) ∧ w'.cell? ⟨w.heap.size, 1, none⟩ = some (.int .i64 g) from by
    have hb : w'.heap[w.heap.size]? = w1.heap[w.heap.size]? := hg.block _ HT1.out.lt (fun e => by injection e; omega)
    have hcell : ∀ j, w'.cell? ⟨w.heap.size, j, none⟩ = w1.cell? ⟨w.heap.size, j, none⟩ := fun j => by simp only [World.cell?, hb]
    exact ⟨(hcell 0).trans x0, (hcell 1).trans x1⟩))
  clear x0 x1 z0 z1 f0 f1
  have HCq := hid (HC.out w1.drew)
  go_region_held3 (fun w' => w'.cell? ⟨w.heap.size, 0, none⟩ = some (.int .i64 c) ∧ w'.cell? ⟨w.heap.size, 1, none⟩ = some (.int .i64 g))
    (first | exact HGS.out _ HGq.out | exact HGS.out _ HG2.out | exact HGS.out _ (grow_set1 HG2.out _ _) | exact HGS.out _ (grow_set1 (grow_set1 HG2.out _ _) _ _))
    (first | (go_simp; go_at_call 67; with_reducible refine HCq.out.mono ?_; rintro e w2 ⟨v2, rfl, ho2, hb2⟩; obtain ⟨a2, c2, hv2⟩ := ho2.sl.form; obtain ⟨n2, hn2⟩ : ∃ n, n = Y.length := ⟨_, rfl⟩; rw [← hn2] at hv2; subst hv2; have HO2 := hid (ho2.mono (HB1.out.trans (HBq.out.mono HB1.out.size)).size); have HB2 := hid (HBq.out.trans (hb2.mono HBq.out.size)); have HG2 := hid (grow_below HB2.out (some (w.heap.size + 1))); have HX2 := hid (HXq.out.below hb2 HXq.out.lt); have z0 := HX2.out.cell 0; have z1 := HX2.out.cell 1; have f0 := HX2.out.ice 0; have f1 := HX2.out.ice 1; simp only [List.getElem?_cons_zero, List.getElem?_cons_succ] at z0 z1; clear ho2 hb2 hn2))
  go_wp2
  refine bodyPost_ret (results_two rfl rfl (loadPc (HX2.out.two (.slice a2 n2 c2) (.int .i64 g)))) rfl ⟨_, _, _, _, rfl, fun bs h' h => ?_, below_two (HB1.out.trans (HB2.out.mono HB1.out.size)) (by omega)⟩
  simp only [Option.some.injEq, Prod.mk.injEq] at h
  obtain ⟨rfl, rfl⟩ := h
  exact ⟨rfl, far_two HO2.out HX2.out (by decide) _ _⟩
set_option maxHeartbeats 4000000 in
set_option maxRecDepth 100000 in
theorem teWrite3 (c g q p : Int) (w : World) (h1 : ctlB c = false) (h2 : findS16 g c = (q, false)) (h3 : findS16 103 c = (p, true)) : Calls Tryz.prog 47 #[.agg #[.int .i64 c, .int .i64 g]] w fun e w' => ∃ a n cp h, e = .returned (.tuple #[.agg #[.slice a n cp, .int .i64 h], .bool (some ([p + 128], g)).isSome]) ∧ (∀ bs h', (some ([p + 128], g)) = some (bs, h') → h = h' ∧ Own .u8 5 w.heap.size w' (.slice a n cp) bs) ∧ Below w.heap.size w w' := by
  have HB0 := hid (show Below w.heap.size w ((w.alloc (.cells #[.int .i64 c, .int .i64 g] 79)).alloc (.cells #[.slice none 0 0, .int .i64 0] 81)) from by (repeat (first | exact Below.refl _ _ | exact below_drewN _ | refine Below.drew ?_ | refine Below.alloc ?_ (by first | omega | (simp; done) | (simp; omega)) _ | refine Below.setCell ?_ (by first | (simp; done) | (simp; omega)) _ | refine below_drewN' ?_ _)))
  have HT0 := hid ((Box.made w 79 [.int .i64 c, .int .i64 g]).alloc (.cells #[.slice none 0 0, .int .i64 0] 81))
  have HX0 := hid (box_last w (.cells #[.int .i64 c, .int .i64 g] 79) 81 [.slice none 0 0, .int .i64 0])
  have HI := hid (fun w => teIsByte c w)
  rw [h1] at HI
  have HF1 := hid (fun w => csFind g c w)
  rw [h2] at HF1
  have HF2 := hid (fun w => csFind 103 c w)
  rw [h3] at HF2
  have hp : 0 ≤ p ∧ p ≤ 127 := by
    obtain ⟨r, hr, hf, hv, ht⟩ := find_row h3
    obtain ⟨-, -, h87, hm, hd, h0, -⟩ := code_row hr
    have h255 : r.t ≤ 255 := by
      have : decide (255 < r.t) = false := by rw [← h87, hf]; rfl
      have := of_decide_eq_false this
      omega
    omega
  obtain ⟨p0, p1⟩ := hp
  have hu : IntKind.u8.wrap (p + 128) = p + 128 := u8_same (by omega) (by omega)
  clear h1 h2 h3
  go_enter Tryz.func47, Tryz.ntmps47
  go_wp2_with (first | (go_at_call 65; refine (HI.out _).mono ?_; rintro e wi ⟨rfl, rfl⟩) | (have _u := HB1; clear _u; go_at_call 66; refine (HF2.out _).mono ?_; rintro e w2 ⟨rfl, hb2⟩; have HB2 := hid (HB1.out.trans (hb2.mono HB1.out.size)); have HT2 := hid (HT1.out.below hb2 HT1.out.lt); have HX2 := hid (HX1.out.below hb2 HX1.out.lt); have x0 := HT2.out.cell 0; have x1 := HT2.out.cell 1; simp only [List.getElem?_cons_zero, List.getElem?_cons_succ] at x0 x1; have z0 := HX2.out.cell 0; have z1 := HX2.out.cell 1; have f0 := HX2.out.ice 0; have f1 := HX2.out.ice 1; simp only [List.getElem?_cons_zero, List.getElem?_cons_succ] at z0 z1; clear hb2; have HT3 := hid (HT2.out.alloc (.cells #[.int .u8 (p + 128)] 5)); have HX3 := hid (HX2.out.alloc (.cells #[.int .u8 (p + 128)] 5)); have x0 := HT3.out.cell 0; have x1 := HT3.out.cell 1; simp only [List.getElem?_cons_zero, List.getElem?_cons_succ] at x0 x1; have z0 := HX3.out.cell 0; have z1 := HX3.out.cell 1; have f0 := HX3.out.ice 0; have f1 := HX3.out.ice 1; simp only [List.getElem?_cons_zero, List.getElem?_cons_succ] at z0 z1) | (go_at_call 66; refine (HF1.out _).mono ?_; rintro e w1 ⟨rfl, hb1⟩; have HB1 := hid (HB0.out.trans (hb1.mono HB0.out.size)); have HT1 := hid (HT0.out.below hb1 HT0.out.lt); have HX1 := hid (HX0.out.below hb1 HX0.out.lt); have x0 := HT1.out.cell 0; have x1 := HT1.out.cell 1; simp only [List.getElem?_cons_zero, List.getElem?_cons_succ] at x0 x1; have z0 := HX1.out.cell 0; have z1 := HX1.out.cell 1; have f0 := HX1.out.ice 0; have f1 := HX1.out.ice 1; simp only [List.getElem?_cons_zero, List.getElem?_cons_succ] at z0 z1; clear hb1))
  have HOW := hid (lit_own (k := .u8) (w := w2) (base := w.heap.size) (e := 5) (xs := [p + 128]) (n := w2.heap.size) (len := 1) (cs := #[.int .u8 (p + 128)]) rfl HB2.out.size rfl rfl (by simp))
  refine bodyPost_ret (results_two rfl rfl (loadPc (HX3.out.two (.slice (some ⟨w2.heap.size, 0, none⟩) 1 1) (.int .i64 g)))) rfl ⟨_, _, _, _, rfl, fun bs h' h => ?_, below_two (HB2.out.alloc HB2.out.size _) (by omega)⟩
  simp only [Option.some.injEq, Prod.mk.injEq] at h
  obtain ⟨rfl, rfl⟩ := h
  exact ⟨rfl, far_two HOW.out HX3.out (by decide) _ _⟩
set_option maxHeartbeats 4000000 in
set_option maxRecDepth 100000 in
theorem teWrite4 (HE : ShEscOk) (c g q p q2 le : Int) (w : World) (h1 : ctlB c = false) (h2 : findS16 g c = (q, false)) (h3 : findS16 103 c = (q2, false)) (h4 : accS c = (p, le, true)) : Calls Tryz.prog 47 #[.agg #[.int .i64 c, .int .i64 g]] w fun e w' => ∃ a n cp h, e = .returned (.tuple #[.agg #[.slice a n cp, .int .i64 h], .bool (some (if le = 32 ∨ g = 102 ∨ g = 6 then ([p + 128, le], g) else (escP 0 102 ++ [p + 128, le], 102))).isSome]) ∧ (∀ bs h', (some (if le = 32 ∨ g = 102 ∨ g = 6 then ([p + 128, le], g) else (escP 0 102 ++ [p + 128, le], 102))) = some (bs, h') → h = h' ∧ Own .u8 5 w.heap.size w' (.slice a n cp) bs) ∧ Below w.heap.size w w' := by
  have HB0 := hid (show Below w.heap.size w ((w.alloc (.cells #[.int .i64 c, .int .i64 g] 79)).alloc (.cells #[.slice none 0 0, .int .i64 0] 81)) from by (repeat (first | exact Below.refl _ _ | exact below_drewN _ | refine Below.drew ?_ | refine Below.alloc ?_ (by first | omega | (simp; done) | (simp; omega)) _ | refine Below.setCell ?_ (by first | (simp; done) | (simp; omega)) _ | refine below_drewN' ?_ _)))
  have HT0 := hid ((Box.made w 79 [.int .i64 c, .int .i64 g]).alloc (.cells #[.slice none 0 0, .int .i64 0] 81))
  have HX0 := hid (box_last w (.cells #[.int .i64 c, .int .i64 g] 79) 81 [.slice none 0 0, .int .i64 0])
  have HI := hid (fun w => teIsByte c w)
  rw [h1] at HI
  have HF1 := hid (fun w => csFind g c w)
  rw [h2] at HF1
  have HF2 := hid (fun w => csFind 103 c w)
  rw [h3] at HF2
  have HA := hid (fun w => csAccent c w)
  rw [h4] at HA
  obtain ⟨n, lone, hmk, -, -, hcase⟩ := acc_facts h4
  obtain ⟨r, hr, hrf, -, -⟩ := mark_row hmk
  have hpl := List.all_eq_true.1 acc_place r hr
  rw [decide_eq_true_iff, hrf] at hpl
  have hle : 0 ≤ le ∧ le ≤ 255 := by
    rcases hcase with ⟨h, -⟩ | ⟨-, -, hl, -⟩
    · omega
    · unfold letB at hl
      rw [decide_eq_true_iff] at hl
      omega
  have HW := hid (fun w => teWriteAccent HE c g p le w (by omega) (by omega) hle.1 hle.2)
  have e1 : (if le = 32 ∨ g = 102 ∨ g = 6 then ([p + 128, le], g) else (escP 0 102 ++ [p + 128, le], 102)) = ((if le = 32 ∨ g = 102 ∨ g = 6 then [p + 128, le] else escP 0 102 ++ [p + 128, le]), (if le = 32 ∨ g = 102 ∨ g = 6 then g else 102)) := by split <;> rfl
  rw [e1]
  generalize (if le = 32 ∨ g = 102 ∨ g = 6 then [p + 128, le] else escP 0 102 ++ [p + 128, le]) = Y at HW ⊢
  generalize (if le = 32 ∨ g = 102 ∨ g = 6 then g else 102) = h0 at HW ⊢
  clear h1 h2 h3 h4 hmk hcase hr hrf hpl hle e1 HE
  go_enter Tryz.func47, Tryz.ntmps47
  go_wp2_with (first | (go_at_call 65; refine (HI.out _).mono ?_; rintro e wi ⟨rfl, rfl⟩) | (have _u := HB1; clear _u; go_at_call 66; refine (HF2.out _).mono ?_; rintro e w2 ⟨rfl, hb2⟩; have HB2 := hid (HB1.out.trans (hb2.mono HB1.out.size)); have HT2 := hid (HT1.out.below hb2 HT1.out.lt); have HX2 := hid (HX1.out.below hb2 HX1.out.lt); have x0 := HT2.out.cell 0; have x1 := HT2.out.cell 1; simp only [List.getElem?_cons_zero, List.getElem?_cons_succ] at x0 x1; have z0 := HX2.out.cell 0; have z1 := HX2.out.cell 1; have f0 := HX2.out.ice 0; have f1 := HX2.out.ice 1; simp only [List.getElem?_cons_zero, List.getElem?_cons_succ] at z0 z1; clear hb2) | (go_at_call 66; refine (HF1.out _).mono ?_; rintro e w1 ⟨rfl, hb1⟩; have HB1 := hid (HB0.out.trans (hb1.mono HB0.out.size)); have HT1 := hid (HT0.out.below hb1 HT0.out.lt); have HX1 := hid (HX0.out.below hb1 HX0.out.lt); have x0 := HT1.out.cell 0; have x1 := HT1.out.cell 1; simp only [List.getElem?_cons_zero, List.getElem?_cons_succ] at x0 x1; have z0 := HX1.out.cell 0; have z1 := HX1.out.cell 1; have f0 := HX1.out.ice 0; have f1 := HX1.out.ice 1; simp only [List.getElem?_cons_zero, List.getElem?_cons_succ] at z0 z1; clear hb1) | (go_at_call 68; refine (HA.out _).mono ?_; rintro e w3 ⟨rfl, hb3⟩; have HB3 := hid (HB2.out.trans (hb3.mono HB2.out.size)); have HT3 := hid (HT2.out.below hb3 HT2.out.lt); have HX3 := hid (HX2.out.below hb3 HX2.out.lt); have x0 := HT3.out.cell 0; have x1 := HT3.out.cell 1; simp only [List.getElem?_cons_zero, List.getElem?_cons_succ] at x0 x1; have z0 := HX3.out.cell 0; have z1 := HX3.out.cell 1; have f0 := HX3.out.ice 0; have f1 := HX3.out.ice 1; simp only [List.getElem?_cons_zero, List.getElem?_cons_succ] at z0 z1; clear hb3) | (go_at_call 69; go_loud (refine (HW.out _).mono ?_; rintro e w4 ⟨v4, rfl, ho4, hb4⟩; obtain ⟨a4, c4, hv4⟩ := ho4.sl.form; obtain ⟨n4, hn4⟩ : ∃ n, n = Y.length := ⟨_, rfl⟩; rw [← hn4] at hv4; subst hv4; have HO4 := hid (ho4.mono HB3.out.size); have HB4 := hid (HB3.out.trans (hb4.mono HB3.out.size)); have HT4 := hid (HT3.out.below hb4 HT3.out.lt); have HX4 := hid (HX3.out.below hb4 HX3.out.lt); have x0 := HT4.out.cell 0; have x1 := HT4.out.cell 1; simp only [List.getElem?_cons_zero, List.getElem?_cons_succ] at x0 x1; have z0 := HX4.out.cell 0; have z1 := HX4.out.cell 1; have f0 := HX4.out.ice 0; have f1 := HX4.out.ice 1; simp only [List.getElem?_cons_zero, List.getElem?_cons_succ] at z0 z1; clear ho4 hb4 hn4)))
  refine bodyPost_ret (results_two rfl rfl (loadPc (HX4.out.two (.slice a4 n4 c4) (.int .i64 h0)))) rfl ⟨_, _, _, _, rfl, fun bs h' h => ?_, below_two HB4.out (by omega)⟩
  simp only [Option.some.injEq, Prod.mk.injEq] at h
  obtain ⟨rfl, rfl⟩ := h
  exact ⟨rfl, far_two HO4.out HX4.out (by decide) _ _⟩
set_option maxHeartbeats 4000000 in
set_option maxRecDepth 100000 in
theorem teWrite5 (HE : ShEscOk) (c g q p q2 le : Int) (w : World) (h1 : ctlB c = false) (h2 : findS16 g c = (q, false)) (h3 : findS16 103 c = (q2, false)) (h4 : accS c = (p, le, false)) : Calls Tryz.prog 47 #[.agg #[.int .i64 c, .int .i64 g]] w fun e w' => ∃ a n cp h, e = .returned (.tuple #[.agg #[.slice a n cp, .int .i64 h], .bool (if (desS c).2 = true then some (escP 0 (desS c).1 ++ bytP (findS16 (desS c).1 c).1, (desS c).1) else none).isSome]) ∧ (∀ bs h', (if (desS c).2 = true then some (escP 0 (desS c).1 ++ bytP (findS16 (desS c).1 c).1, (desS c).1) else none) = some (bs, h') → h = h' ∧ Own .u8 5 w.heap.size w' (.slice a n cp) bs) ∧ Below w.heap.size w w' := by
  have HB0 := hid (show Below w.heap.size w ((w.alloc (.cells #[.int .i64 c, .int .i64 g] 79)).alloc (.cells #[.slice none 0 0, .int .i64 0] 81)) from by (repeat (first | exact Below.refl _ _ | exact below_drewN _ | refine Below.drew ?_ | refine Below.alloc ?_ (by first | omega | (simp; done) | (simp; omega)) _ | refine Below.setCell ?_ (by first | (simp; done) | (simp; omega)) _ | refine below_drewN' ?_ _)))
  have HT0 := hid ((Box.made w 79 [.int .i64 c, .int .i64 g]).alloc (.cells #[.slice none 0 0, .int .i64 0] 81))
  have HX0 := hid (box_last w (.cells #[.int .i64 c, .int .i64 g] 79) 81 [.slice none 0 0, .int .i64 0])
  have HI := hid (fun w => teIsByte c w)
  rw [h1] at HI
  have HF1 := hid (fun w => csFind g c w)
  rw [h2] at HF1
  have HF2 := hid (fun w => csFind 103 c w)
  rw [h3] at HF2
  have HA := hid (fun w => csAccent c w)
  rw [h4] at HA
  have HW := hid (fun w => teWriteDesignated HE c w)
  generalize escP 0 (desS c).1 ++ bytP (findS16 (desS c).1 c).1 = Y at HW ⊢
  generalize desS c = D at HW ⊢
  obtain ⟨d, ok⟩ := D
  dsimp only at HW ⊢
  obtain ⟨R, hR⟩ : ∃ R, R = (if ok = true then some (Y, d) else none) := ⟨_, rfl⟩
  have e1 : R.isSome = ok := by rw [hR]; cases ok <;> rfl
  rw [← hR, e1]
  have HR := hid hR
  clear h1 h2 h3 h4 HE e1 hR
  go_enter Tryz.func47, Tryz.ntmps47
  go_wp2_with (first | (go_at_call 65; refine (HI.out _).mono ?_; rintro e wi ⟨rfl, rfl⟩) | (have _u := HB1; clear _u; go_at_call 66; refine (HF2.out _).mono ?_; rintro e w2 ⟨rfl, hb2⟩; have HB2 := hid (HB1.out.trans (hb2.mono HB1.out.size)); have HT2 := hid (HT1.out.below hb2 HT1.out.lt); have HX2 := hid (HX1.out.below hb2 HX1.out.lt); have x0 := HT2.out.cell 0; have x1 := HT2.out.cell 1; simp only [List.getElem?_cons_zero, List.getElem?_cons_succ] at x0 x1; have z0 := HX2.out.cell 0; have z1 := HX2.out.cell 1; have f0 := HX2.out.ice 0; have f1 := HX2.out.ice 1; simp only [List.getElem?_cons_zero, List.getElem?_cons_succ] at z0 z1; clear hb2) | (go_at_call 66; refine (HF1.out _).mono ?_; rintro e w1 ⟨rfl, hb1⟩; have HB1 := hid (HB0.out.trans (hb1.mono HB0.out.size)); have HT1 := hid (HT0.out.below hb1 HT0.out.lt); have HX1 := hid (HX0.out.below hb1 HX0.out.lt); have x0 := HT1.out.cell 0; have x1 := HT1.out.cell 1; simp only [List.getElem?_cons_zero, List.getElem?_cons_succ] at x0 x1; have z0 := HX1.out.cell 0; have z1 := HX1.out.cell 1; have f0 := HX1.out.ice 0; have f1 := HX1.out.ice 1; simp only [List.getElem?_cons_zero, List.getElem?_cons_succ] at z0 z1; clear hb1) | (go_at_call 68; refine (HA.out _).mono ?_; rintro e w3 ⟨rfl, hb3⟩; have HB3 := hid (HB2.out.trans (hb3.mono HB2.out.size)); have HT3 := hid (HT2.out.below hb3 HT2.out.lt); have HX3 := hid (HX2.out.below hb3 HX2.out.lt); have x0 := HT3.out.cell 0; have x1 := HT3.out.cell 1; simp only [List.getElem?_cons_zero, List.getElem?_cons_succ] at x0 x1; have z0 := HX3.out.cell 0; have z1 := HX3.out.cell 1; have f0 := HX3.out.ice 0; have f1 := HX3.out.ice 1; simp only [List.getElem?_cons_zero, List.getElem?_cons_succ] at z0 z1; clear hb3) | (go_at_call 70; go_loud (refine (HW.out _).mono ?_; rintro e w4 ⟨a4, n4, c4, h4, rfl, ho4, hb4⟩; have HO4 := hid (fun h => (⟨(ho4 h).1, (ho4 h).2.mono HB3.out.size⟩ : _ ∧ _)); have HB4 := hid (HB3.out.trans (hb4.mono HB3.out.size)); have HT4 := hid (HT3.out.below hb4 HT3.out.lt); have HX4 := hid (HX3.out.below hb4 HX3.out.lt); have x0 := HT4.out.cell 0; have x1 := HT4.out.cell 1; simp only [List.getElem?_cons_zero, List.getElem?_cons_succ] at x0 x1; have z0 := HX4.out.cell 0; have z1 := HX4.out.cell 1; have f0 := HX4.out.ice 0; have f1 := HX4.out.ice 1; simp only [List.getElem?_cons_zero, List.getElem?_cons_succ] at z0 z1; clear ho4 hb4)))
  refine bodyPost_ret (results_two rfl rfl (loadPc (HX4.out.two (.slice a4 n4 c4) (.int .i64 h4)))) rfl ⟨_, _, _, _, rfl, fun bs h' h => ?_, below_two HB4.out (by omega)⟩
  rw [HR.out] at h
  cases ok with
  | false => simp at h
  | true =>
    simp only [if_true, Option.some.injEq, Prod.mk.injEq] at h
    obtain ⟨rfl, rfl⟩ := h
    exact ⟨(HO4.out rfl).1, far_two (HO4.out rfl).2 HX4.out (by decide) _ _⟩
theorem teWrite (HE : ShEscOk) (c g : Int) (w : World) : Calls Tryz.prog 47 #[.agg #[.int .i64 c, .int .i64 g]] w fun e w' => ∃ a n cp h, e = .returned (.tuple #[.agg #[.slice a n cp, .int .i64 h], .bool (oneP g c).isSome]) ∧ (∀ bs h', (oneP g c) = some (bs, h') → h = h' ∧ Own .u8 5 w.heap.size w' (.slice a n cp) bs) ∧ Below w.heap.size w w' := by
  unfold oneP
  by_cases h1 : ctlB c = true
  · rw [if_pos h1]
    exact teWrite1 c g w h1
  rw [if_neg h1]
  have h1' : ctlB c = false := by simpa using h1
  generalize hf : findS16 g c = F
  obtain ⟨q, k⟩ := F
  cases k with
  | true =>
    rw [if_pos rfl]
    exact teWrite2 c g q w h1' hf
  | false =>
    rw [if_neg (by simp)]
    generalize hf2 : findS16 103 c = F
    obtain ⟨q2, k⟩ := F
    cases k with
    | true =>
      rw [if_pos rfl]
      exact teWrite3 c g q q2 w h1' hf hf2
    | false =>
      rw [if_neg (by simp)]
      generalize ha : accS c = F
      obtain ⟨p, le, k⟩ := F
      cases k with
      | true =>
        rw [if_pos rfl]
        have := teWrite4 HE c g q p q2 le w h1' hf hf2 ha
        have e : (if le = 32 ∨ g = 102 ∨ g = 6 then some ([p + 128, le], g) else some (escP 0 102 ++ [p + 128, le], 102)) = some (if le = 32 ∨ g = 102 ∨ g = 6 then ([p + 128, le], g) else (escP 0 102 ++ [p + 128, le], 102)) := by split <;> rfl
        simp only
        rw [e]
        exact this
      | false =>
        rw [if_neg (by simp)]
        exact teWrite5 HE c g q p q2 le w h1' hf hf2 ha
end Go.Proofs.YtildhebaikeknaaGreat
