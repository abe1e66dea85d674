/- Several texts in one: RngFlat, Ucd1, RefSc, Ref6a. -/
import Derived.Test.YtidjjaginindoaaGreatPk1
/-! RngFlat -/
namespace Go.Proofs.YtidjjaginindoaaGreat
open Go.RowKit

set_option maxHeartbeats 1000000 in
theorem rngFlat (v : Value) (l : List Rg) (c : Int) (w : World) (h : Sg w v l) :
    Calls Tryz.prog 109 #[v, .int .i64 c] w fun e w' => e = .returned (.int .i64 (lookS l c)) ∧ Below w.heap.size w w' := by
  have ml := h.len
  obtain ⟨a1, cap1, rfl, q1, -, h1⟩ := h
  obtain ⟨n, hn⟩ : ∃ n, n = l.length := ⟨_, rfl⟩
  have hH : ∀ k, k < n → (∀ i, i < k → ¬ ((l.getD i noRg).f ≤ c ∧ c ≤ (l.getD i noRg).t)) → ((l.getD k noRg).f ≤ c ∧ c ≤ (l.getD k noRg).t) → lookS l c = (l.getD k noRg).v := fun k hk ha hh => lookS_hit (by omega) ha hh
  have hN : (∀ i, i < n → ¬ ((l.getD i noRg).f ≤ c ∧ c ≤ (l.getD i noRg).t)) → lookS l c = 0 := fun ha => lookS_none (by rw [← hn]; exact ha)
  have HH := hid hH
  have HN := hid hN
  have H1 := hid h1
  rw [← hn] at ml q1 H1 ⊢
  clear hH hN h1 hn
  go_enter Tryz.func109, Tryz.ntmps109
  go_wp2
  go_loopw [9] (fun iv wr => ∃ k : Nat, k ≤ n ∧ iv = .int .i64 k ∧ Hid (Below w.heap.size w wr) ∧ Hid (∀ i, i < k → ¬ ((l.getD i noRg).f ≤ c ∧ c ≤ (l.getD i noRg).t))) (fun iv _ => n - (intOf iv).toNat)
  case atStart => exact ⟨0, by omega, rfl, Below.refl _ _, fun i hi => absurd hi (by omega)⟩
  case round =>
    obtain ⟨k, hk, rfl, hbel, hall⟩ := hrel
    by_cases hlt : k < n
    · rcases H1.out with hc | ⟨b1, o1, rfl, hb1, c1⟩
      · omega
      have hb1' := hb1 (by omega)
      obtain ⟨d1, d2, d3⟩ := c1 k hlt
      have d1 := (hbel.out.cell (p := ⟨b1, o1 + k * 3, none⟩) hb1').trans d1
      have d2 := (hbel.out.cell (p := ⟨b1, o1 + k * 3 + 1, none⟩) hb1').trans d2
      have d3 := (hbel.out.cell (p := ⟨b1, o1 + k * 3 + 2, none⟩) hb1').trans d3
      have hh := hid (HH.out k hlt hall.out)
      have hnx : ¬ ((l.getD k noRg).f ≤ c ∧ c ≤ (l.getD k noRg).t) → ∀ i, i < k + 1 → ¬ ((l.getD i noRg).f ≤ c ∧ c ≤ (l.getD i noRg).t) := fun he i hi => by
        rcases Nat.lt_or_ge i k with h | h
        · exact hall.out i h
        · obtain rfl : i = k := by omega
          exact he
      have HNX := hid hnx
      clear hnx c1
      generalize l.getD k noRg = r at d1 d2 d3 hh HNX
      obtain ⟨rf, rt, rv⟩ := r
      simp only at d1 d2 d3 hh HNX
      have HBW : Hid (Below w.heap.size w (wr.alloc (.cells #[.int .i64 rf, .int .i64 rt, .int .i64 rv] 41))) := hid (hbel.out.alloc hbel.out.size _)
      by_cases hf : rf ≤ c
      · by_cases ht : c ≤ rt
        · have hr := hid (hh.out ⟨hf, ht⟩)
          go_wp2
          go_ret
          exact ⟨ret_i64' hr.out.symm, HBW.out⟩
        · have hr := hid (HNX.out (fun h => ht h.2))
          go_wp2
          go_roundw
          case rel => exact ⟨k + 1, by omega, by go_num, HBW.out, hr.out⟩
          case measure => simp [intOf]; omega
      · have hr := hid (HNX.out (fun h => hf h.1))
        go_wp2
        go_roundw
        case rel => exact ⟨k + 1, by omega, by go_num, HBW.out, hr.out⟩
        case measure => simp [intOf]; omega
    · obtain rfl : k = n := by omega
      have hr := hid (HN.out hall.out)
      go_wp2
      go_ret
      exact ⟨ret_i64' hr.out.symm, hbel.out⟩
end Go.Proofs.YtidjjaginindoaaGreat

/-! Ucd1 -/
namespace Go.Proofs.YtidjjaginindoaaGreat
open Go.RowKit

def classS (c : Int) : Int := if scalarB c then lookS tabClasses c else 0
def hasS (l : List Rg) (c : Int) : Bool := scalarB c && lookS l c != 0
theorem classS_t {c : Int} (h : scalarB c = true) : lookS tabClasses c = classS c := by unfold classS; rw [h]; rfl
theorem classS_f {c : Int} (h : scalarB c = false) : 0 = classS c := by unfold classS; rw [h]; rfl
theorem hasS_t {l : List Rg} {c : Int} (h : scalarB c = true) : (lookS l c != 0) = hasS l c := by unfold hasS; rw [h]; rfl
theorem hasS_f {l : List Rg} {c : Int} (h : scalarB c = false) : false = hasS l c := by unfold hasS; rw [h]; rfl

set_option maxHeartbeats 1000000 in
theorem ucdScalar (c : Int) (w : World) : Calls Tryz.prog 52 #[.int .i64 c] w fun e w' => e = .returned (.bool (scalarB c)) ∧ w = w' := by
  by_cases h0 : 0 ≤ c
  · by_cases h1 : c ≤ 1114111
    · by_cases h2 : c < 55296
      · have HR := hid (scalar_t ⟨h0, h1, .inl h2⟩)
        go_enter Tryz.func52, Tryz.ntmps52
        go_wp2
        go_ret
        exact ⟨by rw [HR.out]; rfl, rfl⟩
      · by_cases h3 : 57343 < c
        · have HR := hid (scalar_t ⟨h0, h1, .inr h3⟩)
          go_enter Tryz.func52, Tryz.ntmps52
          go_wp2
          go_ret
          exact ⟨by rw [HR.out]; rfl, rfl⟩
        · have HR := hid (scalar_f (c := c) (fun h => by omega))
          go_enter Tryz.func52, Tryz.ntmps52
          go_wp2
          go_ret
          exact ⟨by rw [HR.out]; rfl, rfl⟩
    · have HR := hid (scalar_f (c := c) (fun h => by omega))
      go_enter Tryz.func52, Tryz.ntmps52
      go_wp2
      go_ret
      exact ⟨by rw [HR.out]; rfl, rfl⟩
  · have HR := hid (scalar_f (c := c) (fun h => by omega))
    go_enter Tryz.func52, Tryz.ntmps52
    go_wp2
    go_ret
    exact ⟨by rw [HR.out]; rfl, rfl⟩

set_option maxHeartbeats 1000000 in
theorem ucdClass (c : Int) (w : World) : Calls Tryz.prog 93 #[.int .i64 c] w fun e w' => e = .returned (.int .i64 (classS c)) ∧ Below w.heap.size w w' := by
  obtain ⟨b, hb⟩ : ∃ b, b = scalarB c := ⟨_, rfl⟩
  cases b with
  | false =>
    have HR := hid (classS_f hb.symm)
    have HB := hid hb
    clear hb
    go_enter Tryz.func93, Tryz.ntmps93
    go_wp2_with (go_at_call 52; refine (ucdScalar c _).mono ?_; rw [← HB.out]; rintro e w1 ⟨rfl, rfl⟩)
    go_ret
    exact ⟨by rw [← HR.out]; rfl, Below.refl _ _⟩
  | true =>
    have HR := hid (classS_t hb.symm)
    have HB := hid hb
    clear hb
    go_enter Tryz.func93, Tryz.ntmps93
    go_wp2_with (first
      | (go_at_call 52; refine (ucdScalar c _).mono ?_; rw [← HB.out]; rintro e w1 ⟨rfl, rfl⟩)
      | (go_at_call 59; refine (apiClasses w).mono ?_; rintro e w1 ⟨v1, rfl, hs1, hb1⟩; have HS1 := hid hs1; have HB1 := hid hb1; clear hs1 hb1)
      | (go_at_call 109; refine (rngFlat v1 tabClasses c w1 HS1.out).mono ?_; rw [HR.out]; rintro e w2 ⟨rfl, hb2⟩; have HB2 := hid hb2; clear hb2))
    go_ret
    exact ⟨rfl, HB1.out.trans (HB2.out.mono HB1.out.size)⟩

set_option maxHeartbeats 1000000 in
theorem ucdIsIn (v : Value) (l : List Rg) (c : Int) (w : World) (h : Sg w v l) : Calls Tryz.prog 90 #[v, .int .i64 c] w fun e w' => e = .returned (.bool (hasS l c)) ∧ Below w.heap.size w w' := by
  obtain ⟨b, hb⟩ : ∃ b, b = scalarB c := ⟨_, rfl⟩
  cases b with
  | false =>
    have HR := hid (hasS_f (l := l) hb.symm)
    have HB := hid hb
    clear hb
    go_enter Tryz.func90, Tryz.ntmps90
    go_wp2_with (go_at_call 52; refine (ucdScalar c _).mono ?_; rw [← HB.out]; rintro e w1 ⟨rfl, rfl⟩)
    go_ret
    exact ⟨by rw [← HR.out]; rfl, Below.refl _ _⟩
  | true =>
    obtain ⟨y, hy⟩ : ∃ y, y = (lookS l c != 0) := ⟨_, rfl⟩
    have HR := hid (hy.trans (hasS_t (l := l) hb.symm))
    have HB := hid hb
    have HS := hid h
    obtain ⟨n, hn⟩ : ∃ n, n = lookS l c := ⟨_, rfl⟩
    rw [← hn] at hy
    have HN := hid hn
    replace hy := hy.symm
    clear hb h hn
    go_enter Tryz.func90, Tryz.ntmps90
    go_wp2_with (first
      | (go_at_call 52; refine (ucdScalar c _).mono ?_; rw [← HB.out]; rintro e w1 ⟨rfl, rfl⟩)
      | (go_at_call 109; refine (rngFlat v l c w HS.out).mono ?_; rw [← HN.out]; rintro e w2 ⟨rfl, hb2⟩; have HB2 := hid hb2; clear hb2))
    go_ret
    exact ⟨by rw [← HR.out]; rfl, HB2.out⟩

theorem ucdAssigned (c : Int) (w : World) : Calls Tryz.prog 70 #[.int .i64 c] w fun e w' => e = .returned (.bool (hasS tabAssigned c)) ∧ Below w.heap.size w w' := by
  go_enter Tryz.func70, Tryz.ntmps70
  go_wp2_with (first
    | (go_at_call 72; refine (apiAssigned w).mono ?_; rintro e w1 ⟨v1, rfl, hs1, hb1⟩; have HS1 := hid hs1; have HB1 := hid hb1; clear hs1 hb1)
    | (go_at_call 90; refine (ucdIsIn v1 tabAssigned c w1 HS1.out).mono ?_; rintro e w2 ⟨rfl, hb2⟩; have HB2 := hid hb2; clear hb2))
  go_ret
  exact ⟨rfl, HB1.out.trans (HB2.out.mono HB1.out.size)⟩
theorem ucdNothing (c : Int) (w : World) : Calls Tryz.prog 65 #[.int .i64 c] w fun e w' => e = .returned (.bool (hasS tabNothing c)) ∧ Below w.heap.size w w' := by
  go_enter Tryz.func65, Tryz.ntmps65
  go_wp2_with (first
    | (go_at_call 23; refine (apiNothing w).mono ?_; rintro e w1 ⟨v1, rfl, hs1, hb1⟩; have HS1 := hid hs1; have HB1 := hid hb1; clear hs1 hb1)
    | (go_at_call 90; refine (ucdIsIn v1 tabNothing c w1 HS1.out).mono ?_; rintro e w2 ⟨rfl, hb2⟩; have HB2 := hid hb2; clear hb2))
  go_ret
  exact ⟨rfl, HB1.out.trans (HB2.out.mono HB1.out.size)⟩
theorem ucdSpace (c : Int) (w : World) : Calls Tryz.prog 66 #[.int .i64 c] w fun e w' => e = .returned (.bool (hasS tabSpaces c)) ∧ Below w.heap.size w w' := by
  go_enter Tryz.func66, Tryz.ntmps66
  go_wp2_with (first
    | (go_at_call 24; refine (apiSpaces w).mono ?_; rintro e w1 ⟨v1, rfl, hs1, hb1⟩; have HS1 := hid hs1; have HB1 := hid hb1; clear hs1 hb1)
    | (go_at_call 90; refine (ucdIsIn v1 tabSpaces c w1 HS1.out).mono ?_; rintro e w2 ⟨rfl, hb2⟩; have HB2 := hid hb2; clear hb2))
  go_ret
  exact ⟨rfl, HB1.out.trans (HB2.out.mono HB1.out.size)⟩
theorem ucdProhibited (c : Int) (w : World) : Calls Tryz.prog 71 #[.int .i64 c] w fun e w' => e = .returned (.bool (hasS tabProhibited c)) ∧ Below w.heap.size w w' := by
  go_enter Tryz.func71, Tryz.ntmps71
  go_wp2_with (first
    | (go_at_call 25; refine (apiProhibited w).mono ?_; rintro e w1 ⟨v1, rfl, hs1, hb1⟩; have HS1 := hid hs1; have HB1 := hid hb1; clear hs1 hb1)
    | (go_at_call 90; refine (ucdIsIn v1 tabProhibited c w1 HS1.out).mono ?_; rintro e w2 ⟨rfl, hb2⟩; have HB2 := hid hb2; clear hb2))
  go_ret
  exact ⟨rfl, HB1.out.trans (HB2.out.mono HB1.out.size)⟩
end Go.Proofs.YtidjjaginindoaaGreat

/-! RefSc -/
namespace Go.Proofs.YtidjjaginindoaaGreat
open Go.RowKit

theorem refIn6 (c lo hi : Int) (w : World) : Calls Tryz.prog 110 #[.int .i64 c, .int .i64 lo, .int .i64 hi] w fun e w' => e = .returned (.bool (inB c lo hi)) ∧ w = w' := by
  by_cases h0 : lo ≤ c
  · by_cases h1 : c ≤ hi
    · have HR := hid (show inB c lo hi = true from decide_eq_true ⟨h0, h1⟩)
      go_enter Tryz.func110, Tryz.ntmps110
      go_wp2
      go_ret
      exact ⟨by rw [HR.out]; rfl, rfl⟩
    · have HR := hid (show inB c lo hi = false from decide_eq_false (fun h => h1 h.2))
      go_enter Tryz.func110, Tryz.ntmps110
      go_wp2
      go_ret
      exact ⟨by rw [HR.out]; rfl, rfl⟩
  · have HR := hid (show inB c lo hi = false from decide_eq_false (fun h => h0 h.1))
    go_enter Tryz.func110, Tryz.ntmps110
    go_wp2
    go_ret
    exact ⟨by rw [HR.out]; rfl, rfl⟩

theorem refScalar6 (c : Int) (w : World) : Calls Tryz.prog 91 #[.int .i64 c] w fun e w' => e = .returned (.bool (scalarB c)) ∧ w = w' := by
  obtain ⟨b1, hb1⟩ : ∃ b, b = inB c 0 1114111 := ⟨_, rfl⟩
  obtain ⟨b2, hb2⟩ : ∃ b, b = inB c 55296 57343 := ⟨_, rfl⟩
  have HR := hid (show (b1 && !b2) = scalarB c by
    rw [hb1, hb2]
    unfold scalarB inB
    rw [Bool.eq_iff_iff]
    simp only [Bool.and_eq_true, Bool.not_eq_true', decide_eq_true_eq, decide_eq_false_iff_not]
    omega)
  have H1 := hid hb1
  have H2 := hid hb2
  clear hb1 hb2
  cases b1 with
  | true =>
    go_enter Tryz.func91, Tryz.ntmps91
    go_wp2_with (first
      | (go_at_call 110; with_reducible refine (refIn6 c 0 1114111 _).mono ?_; rw [← H1.out]; rintro e w1 ⟨rfl, rfl⟩)
      | (go_at_call 110; with_reducible refine (refIn6 c 55296 57343 _).mono ?_; rw [← H2.out]; rintro e w1 ⟨rfl, rfl⟩))
    go_ret
    exact ⟨by rw [← HR.out]; rfl, rfl⟩
  | false =>
    go_enter Tryz.func91, Tryz.ntmps91
    go_wp2_with (first
      | (go_at_call 110; with_reducible refine (refIn6 c 0 1114111 _).mono ?_; rw [← H1.out]; rintro e w1 ⟨rfl, rfl⟩))
    go_ret
    exact ⟨by rw [← HR.out]; rfl, rfl⟩
end Go.Proofs.YtidjjaginindoaaGreat

/-! Ref6a -/
namespace Go.Proofs.YtidjjaginindoaaGreat
open Go.RowKit

/-- no table gives a number that is no scalar a value, or any number one below 0 -/
def offT (l : List Rg) : Bool := l.all fun r => decide (0 ≤ r.f ∧ r.t ≤ 1114111 ∧ (r.t < 55296 ∨ 57343 < r.f) ∧ 0 < r.v)
theorem off_all : offT tabClasses = true ∧ offT tabAssigned = true ∧ offT tabNothing = true ∧ offT tabSpaces = true ∧ offT tabProhibited = true := by decide +kernel
theorem off_look {l : List Rg} (h : offT l = true) (c : Int) : lookS l c = 0 ∨ (scalarB c = true ∧ 0 < lookS l c) := by
  by_cases h0 : lookS l c = 0
  · exact .inl h0
  · obtain ⟨r, hr, h1, h2, h3⟩ := lookS_some h0
    have := List.all_eq_true.1 h r hr
    simp only [decide_eq_true_eq] at this
    exact .inr ⟨scalar_t ⟨by omega, by omega, by omega⟩, by rw [h3]; exact this.2.2.2⟩
theorem class_look (c : Int) : lookS tabClasses c = classS c := by
  rcases off_look off_all.1 c with h | h
  · unfold classS
    rw [h]
    split <;> rfl
  · exact classS_t h.1
theorem has_look {l : List Rg} (h : offT l = true) (c : Int) : (scalarB c && decide (0 < lookS l c)) = hasS l c := by
  unfold hasS
  rcases off_look h c with h | h
  · rw [h]; rfl
  · rw [h.1, decide_eq_true h.2]
    have : (lookS l c != 0) = true := by simp only [bne_iff_ne]; omega
    rw [this]

set_option maxHeartbeats 1000000 in
theorem refHas6 (v : Value) (l : List Rg) (c : Int) (w : World) (h : Sg w v l) (hl : offT l = true) : Calls Tryz.prog 67 #[v, .int .i64 c] w fun e w' => e = .returned (.bool (hasS l c)) ∧ w = w' := by
  have hr := has_look hl c
  obtain ⟨b, hb⟩ : ∃ b, b = scalarB c := ⟨_, rfl⟩
  obtain ⟨y, hy⟩ : ∃ y, y = decide (0 < lookS l c) := ⟨_, rfl⟩
  rw [← hb, ← hy] at hr
  obtain ⟨n, hn⟩ : ∃ n, n = lookS l c := ⟨_, rfl⟩
  rw [← hn] at hy
  have HN := hid hn
  have HR := hid hr
  have HB := hid hb
  have HS := hid h
  replace hy := hy.symm
  clear hb h hn hr
  cases b with
  | false =>
    go_enter Tryz.func67, Tryz.ntmps67
    go_wp2_with (go_at_call 91; refine (refScalar6 c _).mono ?_; rw [← HB.out]; rintro e w1 ⟨rfl, rfl⟩)
    go_ret
    exact ⟨by rw [← HR.out]; rfl, rfl⟩
  | true =>
    cases y with
    | true =>
      have hn0 : 0 < n := of_decide_eq_true hy
      go_enter Tryz.func67, Tryz.ntmps67
      go_wp2_with (first
        | (go_at_call 91; refine (refScalar6 c _).mono ?_; rw [← HB.out]; rintro e w1 ⟨rfl, rfl⟩)
        | (go_at_call 75; refine (refLook v l c w HS.out).mono ?_; rw [← HN.out]; rintro e w2 ⟨rfl, rfl⟩))
      go_ret
      exact ⟨by rw [← HR.out]; rfl, rfl⟩
    | false =>
      have hn0 : ¬ 0 < n := of_decide_eq_false hy
      go_enter Tryz.func67, Tryz.ntmps67
      go_wp2_with (first
        | (go_at_call 91; refine (refScalar6 c _).mono ?_; rw [← HB.out]; rintro e w1 ⟨rfl, rfl⟩)
        | (go_at_call 75; refine (refLook v l c w HS.out).mono ?_; rw [← HN.out]; rintro e w2 ⟨rfl, rfl⟩))
      go_ret
      exact ⟨by rw [← HR.out]; rfl, rfl⟩

theorem refAssigned6 (c : Int) (w : World) : Calls Tryz.prog 41 #[.int .i64 c] w fun e w' => e = .returned (.bool (hasS tabAssigned c)) ∧ Below w.heap.size w w' := by
  have HO := hid off_all.2.1
  go_enter Tryz.func41, Tryz.ntmps41
  go_wp2_with (first
    | (go_at_call 72; refine (apiAssigned w).mono ?_; rintro e w1 ⟨v1, rfl, hs1, hb1⟩; have HS1 := hid hs1; have HB1 := hid hb1; clear hs1 hb1)
    | (go_at_call 67; refine (refHas6 v1 tabAssigned c w1 HS1.out HO.out).mono ?_; rintro e w2 ⟨rfl, rfl⟩))
  go_ret
  exact ⟨rfl, HB1.out⟩
theorem refNothing6 (c : Int) (w : World) : Calls Tryz.prog 36 #[.int .i64 c] w fun e w' => e = .returned (.bool (hasS tabNothing c)) ∧ Below w.heap.size w w' := by
  have HO := hid off_all.2.2.1
  go_enter Tryz.func36, Tryz.ntmps36
  go_wp2_with (first
    | (go_at_call 23; refine (apiNothing w).mono ?_; rintro e w1 ⟨v1, rfl, hs1, hb1⟩; have HS1 := hid hs1; have HB1 := hid hb1; clear hs1 hb1)
    | (go_at_call 67; refine (refHas6 v1 tabNothing c w1 HS1.out HO.out).mono ?_; rintro e w2 ⟨rfl, rfl⟩))
  go_ret
  exact ⟨rfl, HB1.out⟩
theorem refSpace6 (c : Int) (w : World) : Calls Tryz.prog 37 #[.int .i64 c] w fun e w' => e = .returned (.bool (hasS tabSpaces c)) ∧ Below w.heap.size w w' := by
  have HO := hid off_all.2.2.2.1
  go_enter Tryz.func37, Tryz.ntmps37
  go_wp2_with (first
    | (go_at_call 24; refine (apiSpaces w).mono ?_; rintro e w1 ⟨v1, rfl, hs1, hb1⟩; have HS1 := hid hs1; have HB1 := hid hb1; clear hs1 hb1)
    | (go_at_call 67; refine (refHas6 v1 tabSpaces c w1 HS1.out HO.out).mono ?_; rintro e w2 ⟨rfl, rfl⟩))
  go_ret
  exact ⟨rfl, HB1.out⟩
theorem refProhibited6 (c : Int) (w : World) : Calls Tryz.prog 42 #[.int .i64 c] w fun e w' => e = .returned (.bool (hasS tabProhibited c)) ∧ Below w.heap.size w w' := by
  have HO := hid off_all.2.2.2.2
  go_enter Tryz.func42, Tryz.ntmps42
  go_wp2_with (first
    | (go_at_call 25; refine (apiProhibited w).mono ?_; rintro e w1 ⟨v1, rfl, hs1, hb1⟩; have HS1 := hid hs1; have HB1 := hid hb1; clear hs1 hb1)
    | (go_at_call 67; refine (refHas6 v1 tabProhibited c w1 HS1.out HO.out).mono ?_; rintro e w2 ⟨rfl, rfl⟩))
  go_ret
  exact ⟨rfl, HB1.out⟩
end Go.Proofs.YtidjjaginindoaaGreat
