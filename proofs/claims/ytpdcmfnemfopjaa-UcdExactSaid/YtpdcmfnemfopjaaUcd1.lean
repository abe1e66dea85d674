/- Contracts of package ucd's Scalar, Class, Assigned, Nothing, Space, Prohibited. -/
import Derived.Test.YtpdcmfnemfopjaaApiRg
import Derived.Test.YtpdcmfnemfopjaaRngFlat
namespace Go.Proofs.Ytpdcmfnemfopjaa
open Go.RowKit

/-- is it a scalar? -/
def scalarB (c : Int) : Bool := decide (0 ≤ c ∧ c ≤ 1114111 ∧ (c < 55296 ∨ 57343 < c))
def classS (c : Int) : Int := if scalarB c then lookS tabClasses c else 0
def hasS (l : List Rg) (c : Int) : Bool := scalarB c && lookS l c != 0
theorem scalar_t {c : Int} (h : 0 ≤ c ∧ c ≤ 1114111 ∧ (c < 55296 ∨ 57343 < c)) : scalarB c = true := decide_eq_true h
theorem scalar_f {c : Int} (h : ¬ (0 ≤ c ∧ c ≤ 1114111 ∧ (c < 55296 ∨ 57343 < c))) : scalarB c = false := decide_eq_false h
theorem classS_t {c : Int} (h : scalarB c = true) : lookS tabClasses c = classS c := by unfold classS; rw [h]; rfl
theorem classS_f {c : Int} (h : scalarB c = false) : 0 = classS c := by unfold classS; rw [h]; rfl
theorem hasS_t {l : List Rg} {c : Int} (h : scalarB c = true) : (lookS l c != 0) = hasS l c := by unfold hasS; rw [h]; rfl
theorem hasS_f {l : List Rg} {c : Int} (h : scalarB c = false) : false = hasS l c := by unfold hasS; rw [h]; rfl

set_option maxHeartbeats 1000000 in
theorem ucdScalar (c : Int) (w : World) : Calls Try.prog 11 #[.int .i64 c] w fun e w' => e = .returned (.bool (scalarB c)) ∧ w = w' := by
  by_cases h0 : 0 ≤ c
  · by_cases h1 : c ≤ 1114111
    · by_cases h2 : c < 55296
      · have HR := hid (scalar_t ⟨h0, h1, .inl h2⟩)
        go_enter Try.func11, Try.ntmps11
        go_wp2
        go_ret
        exact ⟨by rw [HR.out]; rfl, rfl⟩
      · by_cases h3 : 57343 < c
        · have HR := hid (scalar_t ⟨h0, h1, .inr h3⟩)
          go_enter Try.func11, Try.ntmps11
          go_wp2
          go_ret
          exact ⟨by rw [HR.out]; rfl, rfl⟩
        · have HR := hid (scalar_f (c := c) (fun h => by omega))
          go_enter Try.func11, Try.ntmps11
          go_wp2
          go_ret
          exact ⟨by rw [HR.out]; rfl, rfl⟩
    · have HR := hid (scalar_f (c := c) (fun h => by omega))
      go_enter Try.func11, Try.ntmps11
      go_wp2
      go_ret
      exact ⟨by rw [HR.out]; rfl, rfl⟩
  · have HR := hid (scalar_f (c := c) (fun h => by omega))
    go_enter Try.func11, Try.ntmps11
    go_wp2
    go_ret
    exact ⟨by rw [HR.out]; rfl, rfl⟩

set_option maxHeartbeats 1000000 in
theorem ucdClass (c : Int) (w : World) : Calls Try.prog 13 #[.int .i64 c] w fun e w' => e = .returned (.int .i64 (classS c)) ∧ Below w.heap.size w w' := by
  obtain ⟨b, hb⟩ : ∃ b, b = scalarB c := ⟨_, rfl⟩
  cases b with
  | false =>
    have HR := hid (classS_f hb.symm)
    have HB := hid hb
    clear hb
    go_enter Try.func13, Try.ntmps13
    go_wp2_with (go_at_call 11; refine (ucdScalar c _).mono ?_; rw [← HB.out]; rintro e w1 ⟨rfl, rfl⟩)
    go_ret
    exact ⟨by rw [← HR.out]; rfl, Below.refl _ _⟩
  | true =>
    have HR := hid (classS_t hb.symm)
    have HB := hid hb
    clear hb
    go_enter Try.func13, Try.ntmps13
    go_wp2_with (first
      | (go_at_call 11; refine (ucdScalar c _).mono ?_; rw [← HB.out]; rintro e w1 ⟨rfl, rfl⟩)
      | (go_at_call 31; refine (apiClasses w).mono ?_; rintro e w1 ⟨v1, rfl, hs1, hb1⟩; have HS1 := hid hs1; have HB1 := hid hb1; clear hs1 hb1)
      | (go_at_call 44; refine (rngFlat v1 tabClasses c w1 HS1.out).mono ?_; rw [HR.out]; rintro e w2 ⟨rfl, hb2⟩; have HB2 := hid hb2; clear hb2))
    go_ret
    exact ⟨rfl, HB1.out.trans (HB2.out.mono HB1.out.size)⟩

set_option maxHeartbeats 1000000 in
theorem ucdIsIn (v : Value) (l : List Rg) (c : Int) (w : World) (h : Sg w v l) : Calls Try.prog 46 #[v, .int .i64 c] w fun e w' => e = .returned (.bool (hasS l c)) ∧ Below w.heap.size w w' := by
  obtain ⟨b, hb⟩ : ∃ b, b = scalarB c := ⟨_, rfl⟩
  cases b with
  | false =>
    have HR := hid (hasS_f (l := l) hb.symm)
    have HB := hid hb
    clear hb
    go_enter Try.func46, Try.ntmps46
    go_wp2_with (go_at_call 11; refine (ucdScalar c _).mono ?_; rw [← HB.out]; rintro e w1 ⟨rfl, rfl⟩)
    go_ret
    exact ⟨by rw [← HR.out]; rfl, Below.refl _ _⟩
  | true =>
    obtain ⟨y, hy⟩ : ∃ y, y = (lookS l c != 0) := ⟨_, rfl⟩
    have HR := hid (hy.trans (hasS_t (l := l) hb.symm))
    have HB := hid hb
    have HS := hid h
    obtain ⟨n, hn⟩ : ∃ n, n = lookS l c := ⟨_, rfl⟩
    rw [← hn] at hy
    have HN := hid hn
    replace hy := hy.symm
    clear hb h hn
    go_enter Try.func46, Try.ntmps46
    go_wp2_with (first
      | (go_at_call 11; refine (ucdScalar c _).mono ?_; rw [← HB.out]; rintro e w1 ⟨rfl, rfl⟩)
      | (go_at_call 44; refine (rngFlat v l c w HS.out).mono ?_; rw [← HN.out]; rintro e w2 ⟨rfl, hb2⟩; have HB2 := hid hb2; clear hb2))
    go_ret
    exact ⟨by rw [← HR.out]; rfl, HB2.out⟩

theorem ucdAssigned (c : Int) (w : World) : Calls Try.prog 15 #[.int .i64 c] w fun e w' => e = .returned (.bool (hasS tabAssigned c)) ∧ Below w.heap.size w w' := by
  go_enter Try.func15, Try.ntmps15
  go_wp2_with (first
    | (go_at_call 32; refine (apiAssigned w).mono ?_; rintro e w1 ⟨v1, rfl, hs1, hb1⟩; have HS1 := hid hs1; have HB1 := hid hb1; clear hs1 hb1)
    | (go_at_call 46; refine (ucdIsIn v1 tabAssigned c w1 HS1.out).mono ?_; rintro e w2 ⟨rfl, hb2⟩; have HB2 := hid hb2; clear hb2))
  go_ret
  exact ⟨rfl, HB1.out.trans (HB2.out.mono HB1.out.size)⟩
theorem ucdNothing (c : Int) (w : World) : Calls Try.prog 17 #[.int .i64 c] w fun e w' => e = .returned (.bool (hasS tabNothing c)) ∧ Below w.heap.size w w' := by
  go_enter Try.func17, Try.ntmps17
  go_wp2_with (first
    | (go_at_call 33; refine (apiNothing w).mono ?_; rintro e w1 ⟨v1, rfl, hs1, hb1⟩; have HS1 := hid hs1; have HB1 := hid hb1; clear hs1 hb1)
    | (go_at_call 46; refine (ucdIsIn v1 tabNothing c w1 HS1.out).mono ?_; rintro e w2 ⟨rfl, hb2⟩; have HB2 := hid hb2; clear hb2))
  go_ret
  exact ⟨rfl, HB1.out.trans (HB2.out.mono HB1.out.size)⟩
theorem ucdSpace (c : Int) (w : World) : Calls Try.prog 19 #[.int .i64 c] w fun e w' => e = .returned (.bool (hasS tabSpaces c)) ∧ Below w.heap.size w w' := by
  go_enter Try.func19, Try.ntmps19
  go_wp2_with (first
    | (go_at_call 34; refine (apiSpaces w).mono ?_; rintro e w1 ⟨v1, rfl, hs1, hb1⟩; have HS1 := hid hs1; have HB1 := hid hb1; clear hs1 hb1)
    | (go_at_call 46; refine (ucdIsIn v1 tabSpaces c w1 HS1.out).mono ?_; rintro e w2 ⟨rfl, hb2⟩; have HB2 := hid hb2; clear hb2))
  go_ret
  exact ⟨rfl, HB1.out.trans (HB2.out.mono HB1.out.size)⟩
theorem ucdProhibited (c : Int) (w : World) : Calls Try.prog 21 #[.int .i64 c] w fun e w' => e = .returned (.bool (hasS tabProhibited c)) ∧ Below w.heap.size w w' := by
  go_enter Try.func21, Try.ntmps21
  go_wp2_with (first
    | (go_at_call 35; refine (apiProhibited w).mono ?_; rintro e w1 ⟨v1, rfl, hs1, hb1⟩; have HS1 := hid hs1; have HB1 := hid hb1; clear hs1 hb1)
    | (go_at_call 46; refine (ucdIsIn v1 tabProhibited c w1 HS1.out).mono ?_; rintro e w2 ⟨rfl, hb2⟩; have HB2 := hid hb2; clear hb2))
  go_ret
  exact ⟨rfl, HB1.out.trans (HB2.out.mono HB1.out.size)⟩
end Go.Proofs.Ytpdcmfnemfopjaa
