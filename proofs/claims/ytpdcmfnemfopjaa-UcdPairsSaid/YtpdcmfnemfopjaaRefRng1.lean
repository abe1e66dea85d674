/- Contract of the document's Look: the value of the first range that has a number. -/
import Derived.Test.YtpdcmfnemfopjaaSg
import Derived.Test.YtpdcmfnemfopjaaKeepG
namespace Go.Proofs.Ytpdcmfnemfopjaa
open Go.RowKit

theorem ret_i64' {a b : Int} (h : a = b) : Ending.returned (.int .i64 a) = .returned (.int .i64 b) := by rw [h]

theorem refLook (v : Value) (l : List Rg) (c : Int) (w : World) (h : Sg w v l) :
    Calls Try.prog 45 #[v, .int .i64 c] w fun e w' => e = .returned (.int .i64 (lookS l c)) ∧ w = w' := by
  have ml := h.len
  obtain ⟨a1, cap1, rfl, q1, -, h1⟩ := h
  obtain ⟨n, hn⟩ : ∃ n, n = l.length := ⟨_, rfl⟩
  have hH : ∀ k, k < n → (∀ i, i < k → ¬ ((l.getD i noRg).f ≤ c ∧ c ≤ (l.getD i noRg).t)) → ((l.getD k noRg).f ≤ c ∧ c ≤ (l.getD k noRg).t) → lookS l c = (l.getD k noRg).v := fun k hk ha hh => lookS_hit (by omega) ha hh
  have hN : (∀ i, i < n → ¬ ((l.getD i noRg).f ≤ c ∧ c ≤ (l.getD i noRg).t)) → lookS l c = 0 := fun ha => lookS_none (by rw [← hn]; exact ha)
  have HH := hid hH
  have HN := hid hN
  have H1 := hid h1
  rw [← hn] at ml q1 H1 ⊢
  clear hH hN h1 hn
  go_enter Try.func45, Try.ntmps45
  go_wp2
  go_loopw [5] (fun iv wr => ∃ k : Nat, k ≤ n ∧ iv = .int .i64 k ∧ w = wr ∧ Hid (∀ i, i < k → ¬ ((l.getD i noRg).f ≤ c ∧ c ≤ (l.getD i noRg).t))) (fun iv _ => n - (intOf iv).toNat)
  case atStart => exact ⟨0, by omega, rfl, rfl, fun i hi => absurd hi (by omega)⟩
  case round =>
    obtain ⟨k, hk, rfl, rfl, hall⟩ := hrel
    by_cases hlt : k < n
    · rcases H1.out with hc | ⟨b1, o1, rfl, -, c1⟩
      · omega
      obtain ⟨d1, d2, d3⟩ := c1 k hlt
      have hh := hid (HH.out k hlt hall.out)
      have hnx : ¬ ((l.getD k noRg).f ≤ c ∧ c ≤ (l.getD k noRg).t) → ∀ i, i < k + 1 → ¬ ((l.getD i noRg).f ≤ c ∧ c ≤ (l.getD i noRg).t) := fun he i hi => by
        rcases Nat.lt_or_ge i k with h | h
        · exact hall.out i h
        · obtain rfl : i = k := by omega
          exact he
      have HNX := hid hnx
      clear hnx c1
      generalize l.getD k noRg = r at d1 d2 d3 hh HNX
      obtain ⟨rf, rt, rv⟩ := r
      simp only at d1 d2 d3 hh HNX
      by_cases hf : rf ≤ c
      · by_cases ht : c ≤ rt
        · have hr := hid (hh.out ⟨hf, ht⟩)
          go_wp2
          go_ret
          exact ⟨ret_i64' hr.out.symm, rfl⟩
        · have hr := hid (HNX.out (fun h => ht h.2))
          go_wp2
          go_roundw
          case rel => exact ⟨k + 1, by omega, by go_num, by trivial, hr.out⟩
          case measure => simp [intOf]; omega
      · have hr := hid (HNX.out (fun h => hf h.1))
        go_wp2
        go_roundw
        case rel => exact ⟨k + 1, by omega, by go_num, by trivial, hr.out⟩
        case measure => simp [intOf]; omega
    · obtain rfl : k = n := by omega
      have hr := hid (HN.out hall.out)
      go_wp2
      go_ret
      exact ⟨ret_i64' hr.out.symm, rfl⟩
end Go.Proofs.Ytpdcmfnemfopjaa
