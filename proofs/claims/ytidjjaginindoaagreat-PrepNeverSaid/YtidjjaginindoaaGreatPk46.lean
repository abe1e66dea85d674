/- Several texts in one: PrepNever, NeverFacts. -/
import Derived.Test.YtidjjaginindoaaGreatPk22
import Derived.Test.YtidjjaginindoaaGreatPk3
import Derived.Test.YtidjjaginindoaaGreatPk1
import Derived.IntWalk
/-! PrepNever -/
namespace Go.Proofs.YtidjjaginindoaaGreat
open Go.RowKit

/-- private use, the replacement character, a number that is not assigned, surrogates -/
def nevB (x : Int) : Bool := decide (57344 ≤ x ∧ x ≤ 63743) || (x == 65533 || (decide (983040 ≤ x ∧ x ≤ 1048573) || (decide (1048576 ≤ x ∧ x ≤ 1114109) || (x == 545 || decide (55296 ≤ x ∧ x ≤ 57343)))))
theorem nev_or {x : Int} (h : nevB x = true) : (57344 ≤ x ∧ x ≤ 63743) ∨ x = 65533 ∨ (983040 ≤ x ∧ x ≤ 1048573) ∨ (1048576 ≤ x ∧ x ≤ 1114109) ∨ x = 545 ∨ (55296 ≤ x ∧ x ≤ 57343) := by
  unfold nevB at h
  simpa only [Bool.or_eq_true, decide_eq_true_eq, beq_iff_eq] using h
/-- a range with nothing of these in it -/
def offN (r : Rg) : Bool := decide (r.t < 545 ∨ (545 < r.f ∧ r.t < 55296) ∨ (63743 < r.f ∧ r.t < 65533) ∨ (65533 < r.f ∧ r.t < 983040) ∨ (1048573 < r.f ∧ r.t < 1048576) ∨ 1114109 < r.f)
theorem offN_nothing : tabNothing.all offN = true := by decide +kernel
theorem offN_spaces : tabSpaces.all offN = true := by decide +kernel
theorem offN_look {l : List Rg} (hl : l.all offN = true) {x : Int} (h : nevB x = true) : hasS l x = false := by
  have h0 : lookS l x = 0 := look_zero fun r hr hc => by
    have h1 := List.all_eq_true.1 hl r hr
    unfold offN at h1
    rw [decide_eq_true_iff] at h1
    have := nev_or h
    omega
  unfold hasS
  rw [h0]
  simp
set_option maxRecDepth 1000000 in
theorem offN_folds : (tabFolds.all fun m => !nevB m.f) = true := by decide +kernel
set_option maxRecDepth 1000000 in
theorem offN_compat : (tabCompat.all fun m => !nevB m.f) = true := by decide +kernel
set_option maxRecDepth 1000000 in
theorem offN_canon : (tabCanon.all fun r => !nevB r.f) = true := by decide +kernel
set_option maxRecDepth 1000000 in
theorem offN_pair : (tabPair.all fun r => !nevB r.t && !nevB r.v) = true := by decide +kernel
theorem nev_map {l : List Mp} (hl : (l.all fun m => !nevB m.f) = true) {x : Int} (h : nevB x = true) : mapS l x = [] := by
  apply Classical.byContradiction
  intro hne
  obtain ⟨m, hm, he⟩ := map_key hne
  have := List.all_eq_true.1 hl m hm
  rw [he, h] at this
  cases this
theorem nev_canon {x : Int} (h : nevB x = true) : canonS x = [] := by
  unfold canonS
  split
  · cases hk : (fndS (fun r => r.f == x) tabCanon).2 with
    | true =>
      obtain ⟨h1, h2⟩ := fndS_key (p := fun r : Rg => r.f == x) (l := tabCanon) hk
      have h3 := List.all_eq_true.1 offN_canon _ h1
      have h4 : (fndS (fun r => r.f == x) tabCanon).1.f = x := by simpa using h2
      rw [h4, h] at h3
      cases h3
    | false =>
      unfold rowS
      rw [hk]
      rfl
  · rfl
theorem nev_map1 {x : Int} (h : nevB x = true) : mapR 1 x = [x] := by
  unfold mapR
  rw [offN_look offN_nothing h, offN_look offN_spaces h, if_neg (by simp), if_neg (by simp), if_pos (.inl rfl)]
  exact fold_none (nev_map offN_folds h)
theorem nev_one {x : Int} (h : nevB x = true) : oneS true x = [x] := by
  have h1 : splitS x = [] := by
    unfold splitS
    rw [if_neg (by have := nev_or h; omega)]
  have h2 : stepS true x = [] := by
    unfold stepS
    rw [nev_canon h, nev_map offN_compat h]
    rfl
  exact oneS_of_plain ⟨h1, h2⟩
theorem nev_two {x : Int} (h : nevB x = true) (c : Int) : (twoS c x).2 = false ∧ (twoS x c).2 = false := by
  have hr := nev_or h
  have hj : (joinS c x).2 = false ∧ (joinS x c).2 = false := by
    unfold joinS
    constructor
    · rw [if_neg (by omega), if_neg (by omega)]
    · rw [if_neg (by omega), if_neg (by omega)]
  have hp : (pairS c x).2 = false ∧ (pairS x c).2 = false := by
    constructor
    · cases hk : (pairS c x).2 with
      | false => rfl
      | true =>
        obtain ⟨h1, h2⟩ := fndS_key (p := fun r : Rg => r.t == c && r.v == x) (l := tabPair) hk
        have h3 := List.all_eq_true.1 offN_pair _ h1
        simp only [Bool.and_eq_true, beq_iff_eq] at h2
        rw [h2.2, h] at h3
        simp at h3
    · cases hk : (pairS x c).2 with
      | false => rfl
      | true =>
        obtain ⟨h1, h2⟩ := fndS_key (p := fun r : Rg => r.t == x && r.v == c) (l := tabPair) hk
        have h3 := List.all_eq_true.1 offN_pair _ h1
        simp only [Bool.and_eq_true, beq_iff_eq] at h2
        rw [h2.1, h] at h3
        simp at h3
  unfold twoS
  rw [hj.1, hj.2, if_neg (by simp), if_neg (by simp)]
  exact hp
/-- what never joins with another stays -/
theorem comp_keeps {cl : Int → Int} {two : Int → Int → Int × Bool} {x : Int} (h1 : ∀ S, (two S x).2 = false) (h2 : ∀ c, (two x c).2 = false) {s : List Int} (hx : x ∈ s) : x ∈ compG cl two s := by
  have stay : ∀ (q : Cp) (c : Int), x ∈ q.out → x ∈ (stepG cl two q c).out := fun q c h => by
    rcases step_out (cl := cl) (two := two) q c with ⟨S, hs, hh, he⟩ | ⟨-, he⟩
    · rw [he]
      unfold Cp.out at h ⊢
      rw [hs] at h
      simp only [Option.toList_some, List.cons_append, List.nil_append, List.mem_append, List.mem_cons] at h ⊢
      rcases h with h | rfl | h
      · exact .inl h
      · rw [h2 c] at hh; cases hh
      · exact .inr (.inr h)
    · rw [he]
      exact List.mem_append_left _ h
  have put : ∀ (q : Cp), x ∈ (stepG cl two q x).out := fun q => by
    rcases step_out (cl := cl) (two := two) q x with ⟨S, hs, hh, -⟩ | ⟨-, he⟩
    · rw [h1 S] at hh; cases hh
    · rw [he]; exact List.mem_append_right _ (List.mem_singleton.2 rfl)
  have key : ∀ (s : List Int) (q : Cp), (x ∈ q.out ∨ x ∈ s) → x ∈ (s.foldl (stepG cl two) q).out := fun s => by
    induction s with
    | nil => intro q h; exact h.elim id (fun h => absurd h (by simp))
    | cons c s ih =>
      intro q h
      rw [List.foldl_cons]
      refine ih _ ?_
      rcases h with h | h
      · exact .inl (stay q c h)
      · rcases List.mem_cons.1 h with rfl | h
        · exact .inl (put q)
        · exact .inr h
  exact key s _ (.inr hx)
theorem putM_mem {cl : Int → Int} {s : List Int} {x : Int} (h : x ∈ s) : x ∈ putO cl s := by
  have h1 : x ∈ s.filter (fun c => cl c == cl x) := List.mem_filter.2 ⟨h, by simp⟩
  rw [← put_class] at h1
  exact (List.mem_filter.1 h1).1
theorem never {x : Int} (h : nevB x = true) (a b : List Int) : alwP (formS true (mapP 1 (a ++ x :: b))) = false := by
  have hm : x ∈ mapP 1 (a ++ x :: b) := by
    rw [mapP_app, mapP_cons, nev_map1 h]
    simp
  have ha : x ∈ allS true (mapP 1 (a ++ x :: b)) := List.mem_flatMap.2 ⟨x, hm, by rw [nev_one h]; simp⟩
  have hf : x ∈ formS true (mapP 1 (a ++ x :: b)) := comp_keeps (fun S => (nev_two h S).1) (fun c => (nev_two h c).2) (putM_mem ha)
  have ho : okP x = false := by
    unfold okP
    have priv : scalarB x = true → lookS tabProhibited x ≠ 0 → (hasS tabAssigned x && !hasS tabProhibited x) = false := fun h1 h2 => by
      have : hasS tabProhibited x = true := by
        unfold hasS
        rw [h1]
        simpa using h2
      rw [this]
      simp
    rcases nev_or h with h1 | rfl | h1 | h1 | rfl | h1
    · exact priv (scalar_t ⟨by omega, by omega, .inr (by omega)⟩) (by simp only [tabProhibited, lookS]; repeat' split; all_goals first | decide | omega)
    · decide +kernel
    · exact priv (scalar_t ⟨by omega, by omega, .inr (by omega)⟩) (by simp only [tabProhibited, lookS]; repeat' split; all_goals first | decide | omega)
    · exact priv (scalar_t ⟨by omega, by omega, .inr (by omega)⟩) (by simp only [tabProhibited, lookS]; repeat' split; all_goals first | decide | omega)
    · decide +kernel
    · have hs : scalarB x = false := scalar_f (fun h2 => by omega)
      unfold hasS
      rw [hs]
      rfl
  unfold alwP
  cases hk : (formS true (mapP 1 (a ++ x :: b))).all okP with
  | false => rfl
  | true =>
    have := List.all_eq_true.1 hk x hf
    rw [ho] at this
    cases this
end Go.Proofs.YtidjjaginindoaaGreat

/-! NeverFacts -/
namespace Go.Proofs.YtidjjaginindoaaGreat
open Go.RowKit
theorem Sg.open21 {w : World} {v : Value} {l : List Rg} (h : Sg w v l) (h0 : 0 < l.length) : ∃ b o c, v = .slice (some ⟨b, o, none⟩) l.length c ∧ l.length ≤ c ∧ ∀ i, i < l.length → w.cell? ⟨b, o + i * 3, none⟩ = some (.int .i64 (l.getD i noRg).f) ∧ w.cell? ⟨b, o + i * 3 + 1, none⟩ = some (.int .i64 (l.getD i noRg).t) ∧ w.cell? ⟨b, o + i * 3 + 2, none⟩ = some (.int .i64 (l.getD i noRg).v) := by
  obtain ⟨a, c, rfl, h1, -, h⟩ := h
  rcases h with h | ⟨b, o, rfl, -, hc⟩
  · omega
  · exact ⟨b, o, c, rfl, h1, hc⟩
theorem nev_mk (x : Int) (h : (57344 ≤ x ∧ x ≤ 63743) ∨ x = 65533 ∨ (983040 ≤ x ∧ x ≤ 1048573) ∨ (1048576 ≤ x ∧ x ≤ 1114109) ∨ x = 545 ∨ (55296 ≤ x ∧ x ≤ 57343)) : nevB x = true := by
  unfold nevB
  simpa only [Bool.or_eq_true, decide_eq_true_eq, beq_iff_eq] using h
set_option maxRecDepth 1000000 in
theorem canon_832 : canonS 832 = [768] := by decide +kernel
set_option maxRecDepth 1000000 in
theorem canon_833 : canonS 833 = [769] := by decide +kernel
theorem proh_range {r : Rg} (h : r ∈ tabProhibited) : 832 ≤ r.f ∧ r.f ≤ r.t ∧ r.t ≤ 1114109 ∧ ∀ x, r.f ≤ x → x ≤ r.t → x = 832 ∨ x = 833 ∨ nevB x = true := by
  simp only [tabProhibited, List.mem_cons, List.not_mem_nil, or_false] at h
  rcases h with rfl | rfl | rfl | rfl | rfl <;> refine ⟨by decide, by decide, by decide, fun x h1 h2 => ?_⟩ <;> simp only at h1 h2
  · omega
  all_goals exact .inr (.inr (nev_mk x (by omega)))
theorem rem_range {r : Rg} {c : Int} (h : r ∈ tabProhibited) : ∃ x, x = IntKind.i64.wrap (r.f + IntKind.i64.wrap ((IntKind.u64.wrap c).tmod (IntKind.u64.wrap (IntKind.i64.wrap (IntKind.i64.wrap (r.t - r.f) + 1))))) ∧ (x = 832 ∨ x = 833 ∨ nevB x = true) ∧ 0 ≤ x ∧ x ≤ 1114111 ∧ ¬ IntKind.u64.wrap (IntKind.i64.wrap (IntKind.i64.wrap (r.t - r.f) + 1)) = 0 := by
  obtain ⟨h1, h2, h3, h4⟩ := proh_range h
  have e1 : IntKind.i64.wrap (r.t - r.f) = r.t - r.f := IntWalk.i64_in _ (by omega)
  have e2 : IntKind.i64.wrap (r.t - r.f + 1) = r.t - r.f + 1 := IntWalk.i64_in _ (by omega)
  have e3 : IntKind.u64.wrap (r.t - r.f + 1) = r.t - r.f + 1 := by simp only [IntKind.wrap, IntKind.bits, IntKind.signed]; simp; omega
  obtain ⟨a, b⟩ := ixr' c (r.t - r.f + 1) (by omega)
  have e4 : IntKind.i64.wrap ((IntKind.u64.wrap c).tmod (r.t - r.f + 1)) = (IntKind.u64.wrap c).tmod (r.t - r.f + 1) := IntWalk.i64_in _ (by omega)
  rw [e1, e2, e3, e4]
  have e5 : IntKind.i64.wrap (r.f + (IntKind.u64.wrap c).tmod (r.t - r.f + 1)) = r.f + (IntKind.u64.wrap c).tmod (r.t - r.f + 1) := IntWalk.i64_in _ (by omega)
  exact ⟨_, rfl, by rw [e5]; exact h4 _ (by omega) (by omega), by rw [e5]; omega, by rw [e5]; omega, by omega⟩
end Go.Proofs.YtidjjaginindoaaGreat
