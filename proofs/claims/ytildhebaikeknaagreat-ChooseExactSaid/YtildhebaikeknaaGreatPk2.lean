/- Several texts in one: RefRng1, RngFlat, Ucd1, Ucd5. -/
import Derived.Test.YtildhebaikeknaaGreatPk1
/-! RefRng1 -/
namespace Go.Proofs.YtildhebaikeknaaGreat
open Go.RowKit

theorem ret_i64' {a b : Int} (h : a = b) : Ending.returned (.int .i64 a) = .returned (.int .i64 b) := by rw [h]

theorem refLook (v : Value) (l : List Rg) (c : Int) (w : World) (h : Sg w v l) :
    Calls Tryz.prog 106 #[v, .int .i64 c] w fun e w' => e = .returned (.int .i64 (lookS l c)) ∧ w = w' := by
  have ml := h.len
  obtain ⟨a1, cap1, rfl, q1, -, h1⟩ := h
  obtain ⟨n, hn⟩ : ∃ n, n = l.length := ⟨_, rfl⟩
  have hH : ∀ k, k < n → (∀ i, i < k → ¬ ((l.getD i noRg).f ≤ c ∧ c ≤ (l.getD i noRg).t)) → ((l.getD k noRg).f ≤ c ∧ c ≤ (l.getD k noRg).t) → lookS l c = (l.getD k noRg).v := fun k hk ha hh => lookS_hit (by omega) ha hh
  have hN : (∀ i, i < n → ¬ ((l.getD i noRg).f ≤ c ∧ c ≤ (l.getD i noRg).t)) → lookS l c = 0 := fun ha => lookS_none (by rw [← hn]; exact ha)
  have HH := hid hH
  have HN := hid hN
  have H1 := hid h1
  rw [← hn] at ml q1 H1 ⊢
  clear hH hN h1 hn
  go_enter Tryz.func106, Tryz.ntmps106
  go_wp2
  go_loopw [5] (fun iv wr => ∃ k : Nat, k ≤ n ∧ iv = .int .i64 k ∧ w = wr ∧ Hid (∀ i, i < k → ¬ ((l.getD i noRg).f ≤ c ∧ c ≤ (l.getD i noRg).t))) (fun iv _ => n - (intOf iv).toNat)
  case atStart => exact ⟨0, by omega, rfl, rfl, fun i hi => absurd hi (by omega)⟩
  case round =>
    obtain ⟨k, hk, rfl, rfl, hall⟩ := hrel
    by_cases hlt : k < n
    · rcases H1.out with hc | ⟨b1, o1, rfl, -, c1⟩
      · omega
      obtain ⟨d1, d2, d3⟩ := c1 k hlt
      have hh := hid (HH.out k hlt hall.out)
      have hnx : ¬ ((l.getD k noRg).f ≤ c ∧ c ≤ (l.getD k noRg).t) → ∀ i, i < k + 1 → ¬ ((l.getD i noRg).f ≤ c ∧ c ≤ (l.getD i noRg).t) := fun he i hi => by
        rcases Nat.lt_or_ge i k with h | h
        · exact hall.out i h
        · obtain rfl : i = k := by omega
          exact he
      have HNX := hid hnx
      clear hnx c1
      generalize l.getD k noRg = r at d1 d2 d3 hh HNX
      obtain ⟨rf, rt, rv⟩ := r
      simp only at d1 d2 d3 hh HNX
      by_cases hf : rf ≤ c
      · by_cases ht : c ≤ rt
        · have hr := hid (hh.out ⟨hf, ht⟩)
          go_wp2
          go_ret
          exact ⟨ret_i64' hr.out.symm, rfl⟩
        · have hr := hid (HNX.out (fun h => ht h.2))
          go_wp2
          go_roundw
          case rel => exact ⟨k + 1, by omega, by go_num, by trivial, hr.out⟩
          case measure => simp [intOf]; omega
      · have hr := hid (HNX.out (fun h => hf h.1))
        go_wp2
        go_roundw
        case rel => exact ⟨k + 1, by omega, by go_num, by trivial, hr.out⟩
        case measure => simp [intOf]; omega
    · obtain rfl : k = n := by omega
      have hr := hid (HN.out hall.out)
      go_wp2
      go_ret
      exact ⟨ret_i64' hr.out.symm, rfl⟩
end Go.Proofs.YtildhebaikeknaaGreat

/-! RngFlat -/
namespace Go.Proofs.YtildhebaikeknaaGreat
open Go.RowKit

set_option maxHeartbeats 1000000 in
theorem rngFlat (v : Value) (l : List Rg) (c : Int) (w : World) (h : Sg w v l) :
    Calls Tryz.prog 112 #[v, .int .i64 c] w fun e w' => e = .returned (.int .i64 (lookS l c)) ∧ Below w.heap.size w w' := by
  have ml := h.len
  obtain ⟨a1, cap1, rfl, q1, -, h1⟩ := h
  obtain ⟨n, hn⟩ : ∃ n, n = l.length := ⟨_, rfl⟩
  have hH : ∀ k, k < n → (∀ i, i < k → ¬ ((l.getD i noRg).f ≤ c ∧ c ≤ (l.getD i noRg).t)) → ((l.getD k noRg).f ≤ c ∧ c ≤ (l.getD k noRg).t) → lookS l c = (l.getD k noRg).v := fun k hk ha hh => lookS_hit (by omega) ha hh
  have hN : (∀ i, i < n → ¬ ((l.getD i noRg).f ≤ c ∧ c ≤ (l.getD i noRg).t)) → lookS l c = 0 := fun ha => lookS_none (by rw [← hn]; exact ha)
  have HH := hid hH
  have HN := hid hN
  have H1 := hid h1
  rw [← hn] at ml q1 H1 ⊢
  clear hH hN h1 hn
  go_enter Tryz.func112, Tryz.ntmps112
  go_wp2
  go_loopw [9] (fun iv wr => ∃ k : Nat, k ≤ n ∧ iv = .int .i64 k ∧ Hid (Below w.heap.size w wr) ∧ Hid (∀ i, i < k → ¬ ((l.getD i noRg).f ≤ c ∧ c ≤ (l.getD i noRg).t))) (fun iv _ => n - (intOf iv).toNat)
  case atStart => exact ⟨0, by omega, rfl, Below.refl _ _, fun i hi => absurd hi (by omega)⟩
  case round =>
    obtain ⟨k, hk, rfl, hbel, hall⟩ := hrel
    by_cases hlt : k < n
    · rcases H1.out with hc | ⟨b1, o1, rfl, hb1, c1⟩
      · omega
      have hb1' := hb1 (by omega)
      obtain ⟨d1, d2, d3⟩ := c1 k hlt
      have d1 := (hbel.out.cell (p := ⟨b1, o1 + k * 3, none⟩) hb1').trans d1
      have d2 := (hbel.out.cell (p := ⟨b1, o1 + k * 3 + 1, none⟩) hb1').trans d2
      have d3 := (hbel.out.cell (p := ⟨b1, o1 + k * 3 + 2, none⟩) hb1').trans d3
      have hh := hid (HH.out k hlt hall.out)
      have hnx : ¬ ((l.getD k noRg).f ≤ c ∧ c ≤ (l.getD k noRg).t) → ∀ i, i < k + 1 → ¬ ((l.getD i noRg).f ≤ c ∧ c ≤ (l.getD i noRg).t) := fun he i hi => by
        rcases Nat.lt_or_ge i k with h | h
        · exact hall.out i h
        · obtain rfl : i = k := by omega
          exact he
      have HNX := hid hnx
      clear hnx c1
      generalize l.getD k noRg = r at d1 d2 d3 hh HNX
      obtain ⟨rf, rt, rv⟩ := r
      simp only at d1 d2 d3 hh HNX
      have HBW : Hid (Below w.heap.size w (wr.alloc (.cells #[.int .i64 rf, .int .i64 rt, .int .i64 rv] 72))) := hid (hbel.out.alloc hbel.out.size _)
      by_cases hf : rf ≤ c
      · by_cases ht : c ≤ rt
        · have hr := hid (hh.out ⟨hf, ht⟩)
          go_wp2
          go_ret
          exact ⟨ret_i64' hr.out.symm, HBW.out⟩
        · have hr := hid (HNX.out (fun h => ht h.2))
          go_wp2
          go_roundw
          case rel => exact ⟨k + 1, by omega, by go_num, HBW.out, hr.out⟩
          case measure => simp [intOf]; omega
      · have hr := hid (HNX.out (fun h => hf h.1))
        go_wp2
        go_roundw
        case rel => exact ⟨k + 1, by omega, by go_num, HBW.out, hr.out⟩
        case measure => simp [intOf]; omega
    · obtain rfl : k = n := by omega
      have hr := hid (HN.out hall.out)
      go_wp2
      go_ret
      exact ⟨ret_i64' hr.out.symm, hbel.out⟩
end Go.Proofs.YtildhebaikeknaaGreat

/-! Ucd1 -/
namespace Go.Proofs.YtildhebaikeknaaGreat
open Go.RowKit

def classS (c : Int) : Int := if scalarB c then lookS tabClasses c else 0
def hasS (l : List Rg) (c : Int) : Bool := scalarB c && lookS l c != 0
theorem classS_t {c : Int} (h : scalarB c = true) : lookS tabClasses c = classS c := by unfold classS; rw [h]; rfl
theorem classS_f {c : Int} (h : scalarB c = false) : 0 = classS c := by unfold classS; rw [h]; rfl
theorem hasS_t {l : List Rg} {c : Int} (h : scalarB c = true) : (lookS l c != 0) = hasS l c := by unfold hasS; rw [h]; rfl
theorem hasS_f {l : List Rg} {c : Int} (h : scalarB c = false) : false = hasS l c := by unfold hasS; rw [h]; rfl

set_option maxHeartbeats 1000000 in
theorem ucdScalar (c : Int) (w : World) : Calls Tryz.prog 43 #[.int .i64 c] w fun e w' => e = .returned (.bool (scalarB c)) ∧ w = w' := by
  by_cases h0 : 0 ≤ c
  · by_cases h1 : c ≤ 1114111
    · by_cases h2 : c < 55296
      · have HR := hid (scalar_t ⟨h0, h1, .inl h2⟩)
        go_enter Tryz.func43, Tryz.ntmps43
        go_wp2
        go_ret
        exact ⟨by rw [HR.out]; rfl, rfl⟩
      · by_cases h3 : 57343 < c
        · have HR := hid (scalar_t ⟨h0, h1, .inr h3⟩)
          go_enter Tryz.func43, Tryz.ntmps43
          go_wp2
          go_ret
          exact ⟨by rw [HR.out]; rfl, rfl⟩
        · have HR := hid (scalar_f (c := c) (fun h => by omega))
          go_enter Tryz.func43, Tryz.ntmps43
          go_wp2
          go_ret
          exact ⟨by rw [HR.out]; rfl, rfl⟩
    · have HR := hid (scalar_f (c := c) (fun h => by omega))
      go_enter Tryz.func43, Tryz.ntmps43
      go_wp2
      go_ret
      exact ⟨by rw [HR.out]; rfl, rfl⟩
  · have HR := hid (scalar_f (c := c) (fun h => by omega))
    go_enter Tryz.func43, Tryz.ntmps43
    go_wp2
    go_ret
    exact ⟨by rw [HR.out]; rfl, rfl⟩

end Go.Proofs.YtildhebaikeknaaGreat

/-! Ucd5 -/
namespace Go.Proofs.YtildhebaikeknaaGreat
open Go.RowKit

/-- the first place of a number, or -1 -/
def idxL (c : Int) : List Int → Int → Int
  | [], _ => -1
  | x :: l, k => if x == c then k else idxL c l (k + 1)
def inL (c : Int) (l : List Int) : Bool := decide (0 ≤ idxL c l 0)
theorem idxL_drop {c : Int} : ∀ {l : List Int} {k : Nat} {o : Int}, k ≤ l.length → (∀ i, i < k → (l.getD i 0 == c) = false) → idxL c l o = idxL c (l.drop k) (o + (k : Int))
  | _, 0, o, _, _ => by simp
  | [], k + 1, _, h, _ => by simp at h
  | r :: l, k + 1, o, h, ha => by
    have h0 := ha 0 (by omega)
    simp only [List.getD_cons_zero] at h0
    rw [idxL, h0, List.drop_succ_cons, show o + ((k + 1 : Nat) : Int) = o + 1 + (k : Int) by omega]
    exact idxL_drop (by simpa using h) fun i hi => by simpa using ha (i + 1) (by omega)
theorem idxL_hit {c : Int} {l : List Int} {k : Nat} (h : k < l.length) (ha : ∀ i, i < k → (l.getD i 0 == c) = false) (hk : (l.getD k 0 == c) = true) : idxL c l 0 = (k : Int) := by
  rw [idxL_drop (by omega) ha, List.drop_eq_getElem_cons h, idxL]
  have e : l.getD k 0 = l[k] := by rw [List.getD_eq_getElem?_getD, List.getElem?_eq_getElem h]; rfl
  rw [e] at hk
  rw [hk]
  simp
theorem idxL_none {c : Int} {l : List Int} (ha : ∀ i, i < l.length → (l.getD i 0 == c) = false) : idxL c l 0 = -1 := by
  rw [idxL_drop (Nat.le_refl _) ha, List.drop_length]
  rfl

set_option maxHeartbeats 1000000 in
theorem slicesIndex (v : Value) (l : List Int) (c : Int) (w : World) (h : Sl .i64 w v l) :
    Calls Tryz.prog 41 #[v, .int .i64 c] w fun e w' => e = .returned (.int .i64 (idxL c l 0)) ∧ w = w' := by
  have ml := h.len
  obtain ⟨a1, cap1, rfl, q1, -, h1⟩ := h
  obtain ⟨n, hn⟩ : ∃ n, n = l.length := ⟨_, rfl⟩
  obtain ⟨R, hR⟩ : ∃ R, R = idxL c l 0 := ⟨_, rfl⟩
  have hH : ∀ k, k < n → (∀ i, i < k → (l.getD i 0 == c) = false) → (l.getD k 0 == c) = true → R = (k : Int) := fun k hk ha hh => hR.trans (idxL_hit (by omega) ha hh)
  have hN : (∀ i, i < n → (l.getD i 0 == c) = false) → R = -1 := fun ha => hR.trans (idxL_none (by rw [← hn]; exact ha))
  rw [← hR]
  have HH := hid hH
  have HN := hid hN
  have H1 := hid h1
  rw [← hn] at ml q1 H1 ⊢
  clear hH hN h1 hn hR
  go_enter Tryz.func41, Tryz.ntmps41
  go_wp2_with (fail)
  go_loopw [8] (fun iv wr => ∃ k : Nat, k ≤ n ∧ iv = .int .i64 k ∧ wr = w ∧ Hid (∀ i, i < k → (l.getD i 0 == c) = false)) (fun iv _ => n - (intOf iv).toNat)
  case atStart => exact ⟨0, by omega, rfl, rfl, fun i hi => absurd hi (by omega)⟩
  case round =>
    obtain ⟨k, hk, rfl, rfl, hall⟩ := hrel
    by_cases hlt : k < n
    · rcases H1.out with hc | ⟨b1, o1, rfl, hb1, c1⟩
      · omega
      have d1 := c1 k hlt
      have hh := hid (HH.out k hlt hall.out)
      have HNX := hid (show (l.getD k 0 == c) = false → ∀ i, i < k + 1 → (l.getD i 0 == c) = false from fun he i hi => by
        rcases Nat.lt_or_ge i k with h | h
        · exact hall.out i h
        · obtain rfl : i = k := by omega
          exact he)
      clear c1
      generalize l.getD k 0 = y at d1 hh HNX
      obtain ⟨b, hb⟩ : ∃ b, b = (c == y) := ⟨_, rfl⟩
      rw [BEq.comm (a := y) (b := c), ← hb] at hh HNX
      replace hb := hb.symm
      cases b with
      | true =>
        have hr := hid (hh.out rfl)
        go_wp2_with (fail)
        go_ret
        exact ⟨by rw [hr.out]; rfl, rfl⟩
      | false =>
        have hr := hid (HNX.out rfl)
        go_wp2_with (fail)
        go_roundw
        case rel => exact ⟨k + 1, by omega, by go_num, by first | trivial | rfl, hr.out⟩
        case measure => simp [intOf]; omega
    · obtain rfl : k = n := by omega
      have hr := hid (HN.out hall.out)
      go_wp2_with (fail)
      go_ret
      exact ⟨by rw [hr.out]; rfl, rfl⟩

theorem slicesContains (v : Value) (l : List Int) (c : Int) (w : World) (h : Sl .i64 w v l) :
    Calls Tryz.prog 29 #[v, .int .i64 c] w fun e w' => e = .returned (.bool (inL c l)) ∧ w = w' := by
  have H := hid h
  obtain ⟨y, hy⟩ : ∃ y, y = idxL c l 0 := ⟨_, rfl⟩
  obtain ⟨b, hb⟩ : ∃ b, b = decide (0 ≤ y) := ⟨_, rfl⟩
  have HB := hid (show b = inL c l by rw [hb, hy]; rfl)
  have HY := hid hy
  replace hb := hb.symm
  clear h hy
  go_enter Tryz.func29, Tryz.ntmps29
  go_wp2_with (go_at_call 41; refine (slicesIndex v l c _ H.out).mono ?_; rw [← HY.out]; rintro e w1 ⟨rfl, rfl⟩)
  go_ret
  exact ⟨by rw [← HB.out, ← hb]; rfl, rfl⟩
end Go.Proofs.YtildhebaikeknaaGreat
