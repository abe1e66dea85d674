/- Contracts of the document's layer 6: which numbers are scalars, the tables of ranges looked up. -/
import Derived.Test.YtpdcmfnemfopjaaUcd1
import Derived.Test.YtpdcmfnemfopjaaRefRng1
namespace Go.Proofs.Ytpdcmfnemfopjaa
open Go.RowKit

def inB (c lo hi : Int) : Bool := decide (lo ≤ c ∧ c ≤ hi)
theorem refIn6 (c lo hi : Int) (w : World) : Calls Try.prog 43 #[.int .i64 c, .int .i64 lo, .int .i64 hi] w fun e w' => e = .returned (.bool (inB c lo hi)) ∧ w = w' := by
  by_cases h0 : lo ≤ c
  · by_cases h1 : c ≤ hi
    · have HR := hid (show inB c lo hi = true from decide_eq_true ⟨h0, h1⟩)
      go_enter Try.func43, Try.ntmps43
      go_wp2
      go_ret
      exact ⟨by rw [HR.out]; rfl, rfl⟩
    · have HR := hid (show inB c lo hi = false from decide_eq_false (fun h => h1 h.2))
      go_enter Try.func43, Try.ntmps43
      go_wp2
      go_ret
      exact ⟨by rw [HR.out]; rfl, rfl⟩
  · have HR := hid (show inB c lo hi = false from decide_eq_false (fun h => h0 h.1))
    go_enter Try.func43, Try.ntmps43
    go_wp2
    go_ret
    exact ⟨by rw [HR.out]; rfl, rfl⟩

theorem refScalar6 (c : Int) (w : World) : Calls Try.prog 12 #[.int .i64 c] w fun e w' => e = .returned (.bool (scalarB c)) ∧ w = w' := by
  obtain ⟨b1, hb1⟩ : ∃ b, b = inB c 0 1114111 := ⟨_, rfl⟩
  obtain ⟨b2, hb2⟩ : ∃ b, b = inB c 55296 57343 := ⟨_, rfl⟩
  have HR := hid (show (b1 && !b2) = scalarB c by
    rw [hb1, hb2]
    unfold scalarB inB
    rw [Bool.eq_iff_iff]
    simp only [Bool.and_eq_true, Bool.not_eq_true', decide_eq_true_eq, decide_eq_false_iff_not]
    omega)
  have H1 := hid hb1
  have H2 := hid hb2
  clear hb1 hb2
  cases b1 with
  | true =>
    go_enter Try.func12, Try.ntmps12
    go_wp2_with (first
      | (go_at_call 43; with_reducible refine (refIn6 c 0 1114111 _).mono ?_; rw [← H1.out]; rintro e w1 ⟨rfl, rfl⟩)
      | (go_at_call 43; with_reducible refine (refIn6 c 55296 57343 _).mono ?_; rw [← H2.out]; rintro e w1 ⟨rfl, rfl⟩))
    go_ret
    exact ⟨by rw [← HR.out]; rfl, rfl⟩
  | false =>
    go_enter Try.func12, Try.ntmps12
    go_wp2_with (first
      | (go_at_call 43; with_reducible refine (refIn6 c 0 1114111 _).mono ?_; rw [← H1.out]; rintro e w1 ⟨rfl, rfl⟩))
    go_ret
    exact ⟨by rw [← HR.out]; rfl, rfl⟩

/-- no table gives a number that is no scalar a value, or any number one below 0 -/
def offT (l : List Rg) : Bool := l.all fun r => decide (0 ≤ r.f ∧ r.t ≤ 1114111 ∧ (r.t < 55296 ∨ 57343 < r.f) ∧ 0 < r.v)
theorem off_all : offT tabClasses = true ∧ offT tabAssigned = true ∧ offT tabNothing = true ∧ offT tabSpaces = true ∧ offT tabProhibited = true := by decide +kernel
theorem off_look {l : List Rg} (h : offT l = true) (c : Int) : lookS l c = 0 ∨ (scalarB c = true ∧ 0 < lookS l c) := by
  by_cases h0 : lookS l c = 0
  · exact .inl h0
  · obtain ⟨r, hr, h1, h2, h3⟩ := lookS_some h0
    have := List.all_eq_true.1 h r hr
    simp only [decide_eq_true_eq] at this
    exact .inr ⟨scalar_t ⟨by omega, by omega, by omega⟩, by rw [h3]; exact this.2.2.2⟩
theorem class_look (c : Int) : lookS tabClasses c = classS c := by
  rcases off_look off_all.1 c with h | h
  · unfold classS
    rw [h]
    split <;> rfl
  · exact classS_t h.1
theorem has_look {l : List Rg} (h : offT l = true) (c : Int) : (scalarB c && decide (0 < lookS l c)) = hasS l c := by
  unfold hasS
  rcases off_look h c with h | h
  · rw [h]; rfl
  · rw [h.1, decide_eq_true h.2]
    have : (lookS l c != 0) = true := by simp only [bne_iff_ne]; omega
    rw [this]

theorem refClass6 (c : Int) (w : World) : Calls Try.prog 14 #[.int .i64 c] w fun e w' => e = .returned (.int .i64 (classS c)) ∧ Below w.heap.size w w' := by
  have HR := hid (class_look c)
  go_enter Try.func14, Try.ntmps14
  go_wp2_with (first
    | (go_at_call 31; refine (apiClasses w).mono ?_; rintro e w1 ⟨v1, rfl, hs1, hb1⟩; have HS1 := hid hs1; have HB1 := hid hb1; clear hs1 hb1)
    | (go_at_call 45; refine (refLook v1 tabClasses c w1 HS1.out).mono ?_; rw [HR.out]; rintro e w2 ⟨rfl, rfl⟩))
  go_ret
  exact ⟨rfl, HB1.out⟩

set_option maxHeartbeats 1000000 in
theorem refHas6 (v : Value) (l : List Rg) (c : Int) (w : World) (h : Sg w v l) (hl : offT l = true) : Calls Try.prog 47 #[v, .int .i64 c] w fun e w' => e = .returned (.bool (hasS l c)) ∧ w = w' := by
  have hr := has_look hl c
  obtain ⟨b, hb⟩ : ∃ b, b = scalarB c := ⟨_, rfl⟩
  obtain ⟨y, hy⟩ : ∃ y, y = decide (0 < lookS l c) := ⟨_, rfl⟩
  rw [← hb, ← hy] at hr
  obtain ⟨n, hn⟩ : ∃ n, n = lookS l c := ⟨_, rfl⟩
  rw [← hn] at hy
  have HN := hid hn
  have HR := hid hr
  have HB := hid hb
  have HS := hid h
  replace hy := hy.symm
  clear hb h hn hr
  cases b with
  | false =>
    go_enter Try.func47, Try.ntmps47
    go_wp2_with (go_at_call 12; refine (refScalar6 c _).mono ?_; rw [← HB.out]; rintro e w1 ⟨rfl, rfl⟩)
    go_ret
    exact ⟨by rw [← HR.out]; rfl, rfl⟩
  | true =>
    cases y with
    | true =>
      have hn0 : 0 < n := of_decide_eq_true hy
      go_enter Try.func47, Try.ntmps47
      go_wp2_with (first
        | (go_at_call 12; refine (refScalar6 c _).mono ?_; rw [← HB.out]; rintro e w1 ⟨rfl, rfl⟩)
        | (go_at_call 45; refine (refLook v l c w HS.out).mono ?_; rw [← HN.out]; rintro e w2 ⟨rfl, rfl⟩))
      go_ret
      exact ⟨by rw [← HR.out]; rfl, rfl⟩
    | false =>
      have hn0 : ¬ 0 < n := of_decide_eq_false hy
      go_enter Try.func47, Try.ntmps47
      go_wp2_with (first
        | (go_at_call 12; refine (refScalar6 c _).mono ?_; rw [← HB.out]; rintro e w1 ⟨rfl, rfl⟩)
        | (go_at_call 45; refine (refLook v l c w HS.out).mono ?_; rw [← HN.out]; rintro e w2 ⟨rfl, rfl⟩))
      go_ret
      exact ⟨by rw [← HR.out]; rfl, rfl⟩

theorem refAssigned6 (c : Int) (w : World) : Calls Try.prog 16 #[.int .i64 c] w fun e w' => e = .returned (.bool (hasS tabAssigned c)) ∧ Below w.heap.size w w' := by
  have HO := hid off_all.2.1
  go_enter Try.func16, Try.ntmps16
  go_wp2_with (first
    | (go_at_call 32; refine (apiAssigned w).mono ?_; rintro e w1 ⟨v1, rfl, hs1, hb1⟩; have HS1 := hid hs1; have HB1 := hid hb1; clear hs1 hb1)
    | (go_at_call 47; refine (refHas6 v1 tabAssigned c w1 HS1.out HO.out).mono ?_; rintro e w2 ⟨rfl, rfl⟩))
  go_ret
  exact ⟨rfl, HB1.out⟩
theorem refNothing6 (c : Int) (w : World) : Calls Try.prog 18 #[.int .i64 c] w fun e w' => e = .returned (.bool (hasS tabNothing c)) ∧ Below w.heap.size w w' := by
  have HO := hid off_all.2.2.1
  go_enter Try.func18, Try.ntmps18
  go_wp2_with (first
    | (go_at_call 33; refine (apiNothing w).mono ?_; rintro e w1 ⟨v1, rfl, hs1, hb1⟩; have HS1 := hid hs1; have HB1 := hid hb1; clear hs1 hb1)
    | (go_at_call 47; refine (refHas6 v1 tabNothing c w1 HS1.out HO.out).mono ?_; rintro e w2 ⟨rfl, rfl⟩))
  go_ret
  exact ⟨rfl, HB1.out⟩
theorem refSpace6 (c : Int) (w : World) : Calls Try.prog 20 #[.int .i64 c] w fun e w' => e = .returned (.bool (hasS tabSpaces c)) ∧ Below w.heap.size w w' := by
  have HO := hid off_all.2.2.2.1
  go_enter Try.func20, Try.ntmps20
  go_wp2_with (first
    | (go_at_call 34; refine (apiSpaces w).mono ?_; rintro e w1 ⟨v1, rfl, hs1, hb1⟩; have HS1 := hid hs1; have HB1 := hid hb1; clear hs1 hb1)
    | (go_at_call 47; refine (refHas6 v1 tabSpaces c w1 HS1.out HO.out).mono ?_; rintro e w2 ⟨rfl, rfl⟩))
  go_ret
  exact ⟨rfl, HB1.out⟩
theorem refProhibited6 (c : Int) (w : World) : Calls Try.prog 22 #[.int .i64 c] w fun e w' => e = .returned (.bool (hasS tabProhibited c)) ∧ Below w.heap.size w w' := by
  have HO := hid off_all.2.2.2.2
  go_enter Try.func22, Try.ntmps22
  go_wp2_with (first
    | (go_at_call 35; refine (apiProhibited w).mono ?_; rintro e w1 ⟨v1, rfl, hs1, hb1⟩; have HS1 := hid hs1; have HB1 := hid hb1; clear hs1 hb1)
    | (go_at_call 47; refine (refHas6 v1 tabProhibited c w1 HS1.out HO.out).mono ?_; rintro e w2 ⟨rfl, rfl⟩))
  go_ret
  exact ⟨rfl, HB1.out⟩
end Go.Proofs.Ytpdcmfnemfopjaa
