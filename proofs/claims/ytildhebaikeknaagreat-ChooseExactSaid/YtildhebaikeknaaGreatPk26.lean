/- Several texts in one: Ref6a, Ref6b. -/
import Derived.Test.YtildhebaikeknaaGreatPk2
import Derived.Test.YtildhebaikeknaaGreatPk18
import Derived.Test.YtildhebaikeknaaGreatPk16
/-! Ref6a -/
namespace Go.Proofs.YtildhebaikeknaaGreat
open Go.RowKit

/-- no table gives a number that is no scalar a value, or any number one below 0 -/
def offT (l : List Rg) : Bool := l.all fun r => decide (0 ≤ r.f ∧ r.t ≤ 1114111 ∧ (r.t < 55296 ∨ 57343 < r.f) ∧ 0 < r.v)
theorem off_all : offT tabClasses = true ∧ offT tabAssigned = true ∧ offT tabNothing = true ∧ offT tabSpaces = true ∧ offT tabProhibited = true := by decide +kernel
theorem off_look {l : List Rg} (h : offT l = true) (c : Int) : lookS l c = 0 ∨ (scalarB c = true ∧ 0 < lookS l c) := by
  by_cases h0 : lookS l c = 0
  · exact .inl h0
  · obtain ⟨r, hr, h1, h2, h3⟩ := lookS_some h0
    have := List.all_eq_true.1 h r hr
    simp only [decide_eq_true_eq] at this
    exact .inr ⟨scalar_t ⟨by omega, by omega, by omega⟩, by rw [h3]; exact this.2.2.2⟩
theorem class_look (c : Int) : lookS tabClasses c = classS c := by
  rcases off_look off_all.1 c with h | h
  · unfold classS
    rw [h]
    split <;> rfl
  · exact classS_t h.1
theorem has_look {l : List Rg} (h : offT l = true) (c : Int) : (scalarB c && decide (0 < lookS l c)) = hasS l c := by
  unfold hasS
  rcases off_look h c with h | h
  · rw [h]; rfl
  · rw [h.1, decide_eq_true h.2]
    have : (lookS l c != 0) = true := by simp only [bne_iff_ne]; omega
    rw [this]

end Go.Proofs.YtildhebaikeknaaGreat

/-! Ref6b -/
namespace Go.Proofs.YtildhebaikeknaaGreat
open Go.RowKit

/-- the tables lie behind block B -/
def TabsAt (B : Nat) (w : World) : Prop := ∃ v1 v2 v3 v4 v5, Box 55 [v1, v2, v3, v4, v5] B w ∧ Sg w v1 tabCanon ∧ Sm w v2 tabCompat ∧ Sm w v3 tabFolds ∧ Sl .i64 w v4 exclL ∧ Sg w v5 tabClasses
theorem TabsAt.below {B : Nat} {w w' : World} (h : TabsAt B w) (hb : Below w.heap.size w w') : TabsAt B w' := by
  obtain ⟨v1, v2, v3, v4, v5, hx, h1, h2, h3, h4, h5⟩ := h
  exact ⟨v1, v2, v3, v4, v5, hx.below hb hx.lt, h1.below hb, h2.below hb, h3.below hb, h4.below hb, h5.below hb⟩

set_option maxHeartbeats 2000000 in
theorem refAll6 (w : World) : Calls Tryz.prog 15 #[] w fun e w' => ∃ B, e = .returned (.pointer (some ⟨B, 0, none⟩)) ∧ TabsAt B w' ∧ Below w.heap.size w w' := by
  go_enter Tryz.func15, Tryz.ntmps15
  go_wp2_with (first
    | (go_at_call 23; refine (apiCanon _).mono ?_; rintro e w1 ⟨v1, rfl, ho1, hb1⟩; have HO1 := hid ho1.sg; have HB1 := hid hb1; obtain ⟨a1, c1, hv1⟩ := ho1.form; obtain ⟨n1, hn1⟩ : ∃ n, n = tabCanon.length := ⟨_, rfl⟩; rw [← hn1] at hv1; subst hv1; clear ho1 hb1 hn1)
    | (go_at_call 24; refine (apiCompat _).mono ?_; rintro e w2 ⟨v2, rfl, ho2, hb2⟩; have HO2 := hid ho2.sm; have HB2 := hid hb2; obtain ⟨a2, c2, hv2⟩ := ho2.form; obtain ⟨n2, hn2⟩ : ∃ n, n = tabCompat.length := ⟨_, rfl⟩; rw [← hn2] at hv2; subst hv2; clear ho2 hb2 hn2)
    | (go_at_call 25; refine (apiFolds _).mono ?_; rintro e w3 ⟨v3, rfl, ho3, hb3⟩; have HO3 := hid ho3.sm; have HB3 := hid hb3; obtain ⟨a3, c3, hv3⟩ := ho3.form; obtain ⟨n3, hn3⟩ : ∃ n, n = tabFolds.length := ⟨_, rfl⟩; rw [← hn3] at hv3; subst hv3; clear ho3 hb3 hn3)
    | (go_at_call 26; refine (apiExcludedO _).mono ?_; rintro e w4 ⟨v4, rfl, ho4, hb4⟩; have HO4 := hid ho4.sl; have HB4 := hid hb4; obtain ⟨a4, c4, hv4⟩ := ho4.sl.form; obtain ⟨n4, hn4⟩ : ∃ n, n = exclL.length := ⟨_, rfl⟩; rw [← hn4] at hv4; subst hv4; clear ho4 hb4 hn4)
    | (go_at_call 27; refine (apiClasses _).mono ?_; rintro e w5 ⟨v5, rfl, ho5, hb5⟩; have HO5 := hid ho5; have HB5 := hid hb5; obtain ⟨a5, c5, hv5⟩ := ho5.form; obtain ⟨n5, hn5⟩ : ∃ n, n = tabClasses.length := ⟨_, rfl⟩; rw [← hn5] at hv5; subst hv5; clear ho5 hb5 hn5))
  go_ret
  have k6 : Below w5.heap.size w5 (w5.alloc (.cells #[.slice a1 n1 c1, .slice a2 n2 c2, .slice a3 n3 c3, .slice a4 n4 c4, .slice a5 n5 c5] 55)) := by (repeat (first | exact Below.refl _ _ | exact below_drewN _ | refine Below.drew ?_ | refine Below.alloc ?_ (by simp) _ | refine Below.setCell ?_ (by simp) _ | refine below_drewN' ?_ _))
  have k2 := HB1.out.trans (HB2.out.mono HB1.out.size)
  have k3 := k2.trans (HB3.out.mono k2.size)
  have k4 := k3.trans (HB4.out.mono k3.size)
  have k5 := k4.trans (HB5.out.mono k4.size)
  exact ⟨w5.heap.size, rfl, ⟨_, _, _, _, _, Box.made w5 _ [_, _, _, _, _], ((((HO1.out.below HB2.out).below HB3.out).below HB4.out).below HB5.out).below k6, (((HO2.out.below HB3.out).below HB4.out).below HB5.out).below k6, ((HO3.out.below HB4.out).below HB5.out).below k6, (HO4.out.below HB5.out).below k6, HO5.out.below k6⟩, k5.trans (k6.mono k5.size)⟩

theorem refTClass (B : Nat) (c : Int) (w : World) (h : TabsAt B w) : Calls Tryz.prog 101 #[.pointer (some ⟨B, 0, none⟩), .int .i64 c] w fun e w' => e = .returned (.int .i64 (classS c)) ∧ w = w' := by
  obtain ⟨v1, v2, v3, v4, v5, hx, h1, h2, h3, h4, h5⟩ := h
  have HS := hid h5
  have x4 := hx.cell 4
  simp only [List.getElem?_cons_zero, List.getElem?_cons_succ] at x4
  have HR := hid (class_look c)
  clear hx h1 h2 h3 h4 h5
  go_enter Tryz.func101, Tryz.ntmps101
  go_wp2_with (first
    | (go_at_call 106; refine (refLook v5 tabClasses c w HS.out).mono ?_; rw [HR.out]; rintro e w2 ⟨rfl, rfl⟩))
  go_ret
  exact ⟨rfl, rfl⟩

/-- no entry speaks of what is no scalar; what they tell is short -/
def offM (l : List Mp) : Bool := l.all fun m => scalarB m.f && decide (m.t.length ≤ 1000)
set_option maxRecDepth 100000 in
theorem offM_all : offM tabCompat = true ∧ offM tabFolds = true := by decide +kernel
theorem offM_map {l : List Mp} (h : offM l = true) (c : Int) : (fndM c l).1.t = mapS l c := by
  cases hb : scalarB c with
  | true => exact mapS_t hb
  | false =>
    rw [← mapS_f (l := l) hb]
    have key : ∀ l : List Mp, offM l = true → (fndM c l).1.t = [] := fun l => by
      induction l with
      | nil => intro _; rfl
      | cons m l ih =>
        intro h
        simp only [offM, List.all_cons, Bool.and_eq_true] at h
        rw [fndM]
        split
        · rename_i he
          have := eq_of_beq he
          rw [this, hb] at h
          simp at h
        · exact ih h.2
    exact key l h
theorem offM_len {l : List Mp} (h : offM l = true) : ∀ m ∈ l, m.t.length ≤ 1000 := fun m hm => by
  have := List.all_eq_true.1 h m hm
  simp only [Bool.and_eq_true, decide_eq_true_eq] at this
  exact this.2
end Go.Proofs.YtildhebaikeknaaGreat
