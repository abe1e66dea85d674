/- Contracts of the library's slices.Index, slices.Contains ([]int), and of the rows that package ucd leaves out. -/
import Derived.Test.YtpdcmfnemfopjaaRngFlat
import Derived.Test.YtpdcmfnemfopjaaKeepInts
namespace Go.Proofs.Ytpdcmfnemfopjaa
open Go.RowKit

/-- the first place of a number, or -1 -/
def idxL (c : Int) : List Int → Int → Int
  | [], _ => -1
  | x :: l, k => if x == c then k else idxL c l (k + 1)
def inL (c : Int) (l : List Int) : Bool := decide (0 ≤ idxL c l 0)
theorem idxL_drop {c : Int} : ∀ {l : List Int} {k : Nat} {o : Int}, k ≤ l.length → (∀ i, i < k → (l.getD i 0 == c) = false) → idxL c l o = idxL c (l.drop k) (o + (k : Int))
  | _, 0, o, _, _ => by simp
  | [], k + 1, _, h, _ => by simp at h
  | r :: l, k + 1, o, h, ha => by
    have h0 := ha 0 (by omega)
    simp only [List.getD_cons_zero] at h0
    rw [idxL, h0, List.drop_succ_cons, show o + ((k + 1 : Nat) : Int) = o + 1 + (k : Int) by omega]
    exact idxL_drop (by simpa using h) fun i hi => by simpa using ha (i + 1) (by omega)
theorem idxL_hit {c : Int} {l : List Int} {k : Nat} (h : k < l.length) (ha : ∀ i, i < k → (l.getD i 0 == c) = false) (hk : (l.getD k 0 == c) = true) : idxL c l 0 = (k : Int) := by
  rw [idxL_drop (by omega) ha, List.drop_eq_getElem_cons h, idxL]
  have e : l.getD k 0 = l[k] := by rw [List.getD_eq_getElem?_getD, List.getElem?_eq_getElem h]; rfl
  rw [e] at hk
  rw [hk]
  simp
theorem idxL_none {c : Int} {l : List Int} (ha : ∀ i, i < l.length → (l.getD i 0 == c) = false) : idxL c l 0 = -1 := by
  rw [idxL_drop (Nat.le_refl _) ha, List.drop_length]
  rfl

set_option maxHeartbeats 1000000 in
theorem slicesIndex (v : Value) (l : List Int) (c : Int) (w : World) (h : Sl .i64 w v l) :
    Calls Try.prog 65 #[v, .int .i64 c] w fun e w' => e = .returned (.int .i64 (idxL c l 0)) ∧ w = w' := by
  have ml := h.len
  obtain ⟨a1, cap1, rfl, q1, -, h1⟩ := h
  obtain ⟨n, hn⟩ : ∃ n, n = l.length := ⟨_, rfl⟩
  obtain ⟨R, hR⟩ : ∃ R, R = idxL c l 0 := ⟨_, rfl⟩
  have hH : ∀ k, k < n → (∀ i, i < k → (l.getD i 0 == c) = false) → (l.getD k 0 == c) = true → R = (k : Int) := fun k hk ha hh => hR.trans (idxL_hit (by omega) ha hh)
  have hN : (∀ i, i < n → (l.getD i 0 == c) = false) → R = -1 := fun ha => hR.trans (idxL_none (by rw [← hn]; exact ha))
  rw [← hR]
  have HH := hid hH
  have HN := hid hN
  have H1 := hid h1
  rw [← hn] at ml q1 H1 ⊢
  clear hH hN h1 hn hR
  go_enter Try.func65, Try.ntmps65
  go_wp2_with (fail)
  go_loopw [8] (fun iv wr => ∃ k : Nat, k ≤ n ∧ iv = .int .i64 k ∧ wr = w ∧ Hid (∀ i, i < k → (l.getD i 0 == c) = false)) (fun iv _ => n - (intOf iv).toNat)
  case atStart => exact ⟨0, by omega, rfl, rfl, fun i hi => absurd hi (by omega)⟩
  case round =>
    obtain ⟨k, hk, rfl, rfl, hall⟩ := hrel
    by_cases hlt : k < n
    · rcases H1.out with hc | ⟨b1, o1, rfl, hb1, c1⟩
      · omega
      have d1 := c1 k hlt
      have hh := hid (HH.out k hlt hall.out)
      have HNX := hid (show (l.getD k 0 == c) = false → ∀ i, i < k + 1 → (l.getD i 0 == c) = false from fun he i hi => by
        rcases Nat.lt_or_ge i k with h | h
        · exact hall.out i h
        · obtain rfl : i = k := by omega
          exact he)
      clear c1
      generalize l.getD k 0 = y at d1 hh HNX
      obtain ⟨b, hb⟩ : ∃ b, b = (c == y) := ⟨_, rfl⟩
      rw [BEq.comm (a := y) (b := c), ← hb] at hh HNX
      replace hb := hb.symm
      cases b with
      | true =>
        have hr := hid (hh.out rfl)
        go_wp2_with (fail)
        go_ret
        exact ⟨by rw [hr.out]; rfl, rfl⟩
      | false =>
        have hr := hid (HNX.out rfl)
        go_wp2_with (fail)
        go_roundw
        case rel => exact ⟨k + 1, by omega, by go_num, by first | trivial | rfl, hr.out⟩
        case measure => simp [intOf]; omega
    · obtain rfl : k = n := by omega
      have hr := hid (HN.out hall.out)
      go_wp2_with (fail)
      go_ret
      exact ⟨by rw [hr.out]; rfl, rfl⟩

theorem slicesContains (v : Value) (l : List Int) (c : Int) (w : World) (h : Sl .i64 w v l) :
    Calls Try.prog 62 #[v, .int .i64 c] w fun e w' => e = .returned (.bool (inL c l)) ∧ w = w' := by
  have H := hid h
  obtain ⟨y, hy⟩ : ∃ y, y = idxL c l 0 := ⟨_, rfl⟩
  obtain ⟨b, hb⟩ : ∃ b, b = decide (0 ≤ y) := ⟨_, rfl⟩
  have HB := hid (show b = inL c l by rw [hb, hy]; rfl)
  have HY := hid hy
  replace hb := hb.symm
  clear h hy
  go_enter Try.func62, Try.ntmps62
  go_wp2_with (go_at_call 65; refine (slicesIndex v l c _ H.out).mono ?_; rw [← HY.out]; rintro e w1 ⟨rfl, rfl⟩)
  go_ret
  exact ⟨by rw [← HB.out, ← hb]; rfl, rfl⟩
end Go.Proofs.Ytpdcmfnemfopjaa
