/- Contract of the helper that compares lists of ranges: it answers whether they are equal and changes nothing. -/
import Derived.Test.YtlngnmcflooccaaSg
import Derived.Test.YtlngnmcflooccaaKeepG
import Derived.BigQuiet
import Derived.Laws.StructEq
namespace Go.Proofs.Ytlngnmcflooccaa
open Go.RowKit

def eqG (l m : List Rg) : Bool := decide (l = m)
theorem eqG_iff {l m : List Rg} : eqG l m = true ↔ l = m := by simp [eqG]
theorem ext_rg {l m : List Rg} (hl : l.length = m.length) (h : ∀ i, i < l.length → l.getD i noRg = m.getD i noRg) : l = m := by
  apply List.ext_getElem hl
  intro i h1 h2
  have := h i h1
  simpa [List.getD_eq_getElem?_getD, List.getElem?_eq_getElem h1, List.getElem?_eq_getElem h2] using this

theorem neq_rg (a b c d e f : Int) (w : World) : (binOp .neq 43 (.agg #[.int .i64 a, .int .i64 b, .int .i64 c]) (.agg #[.int .i64 d, .int .i64 e, .int .i64 f])).run Try.prog w = .ok (.bool (!decide ((⟨a, b, c⟩ : Rg) = ⟨d, e, f⟩))) w := by
  have u3 := Try.underlying3
  have a3 := Try.isAgg3
  have z3 := Try.sizeOf3
  have hS : Try.prog.underlying 43 = some (.struct (Try.prog.fieldsOf 43)) := by kernel_rfl
  have hp : Try.prog.stoodInHeld 43 = false := by kernel_rfl
  rw [run_neq_struct, show (10000 : Nat) = 9999 + 1 from rfl, run_equalIn_agg w 9999 43 _ _ hS hp]
  simp only [Program.fieldsOf, Try.underlying43]
  go_simp
  by_cases h1 : a = d <;> by_cases h2 : b = e <;> by_cases h3 : c = f <;> simp [h1, h2, h3]

set_option maxHeartbeats 1000000 in
theorem keepRanges (v1 v2 : Value) (l m : List Rg) (w : World) (h1 : Sg w v1 l) (h2 : Sg w v2 m) :
    Calls Try.prog 14 #[v1, v2] w fun e w' => e = .returned (.bool (eqG l m)) ∧ ∃ n, w' = w.drewN n := by
  have m1 := h1.len
  have m2 := h2.len
  obtain ⟨a1, cap1, rfl, q1, -, h1⟩ := h1
  obtain ⟨a2, cap2, rfl, q2, -, h2⟩ := h2
  by_cases hne : l.length = m.length
  · have H1 := hid h1
    have H2 := hid h2
    obtain ⟨n, hn⟩ : ∃ n, n = l.length := ⟨_, rfl⟩
    have hE : (∀ i, i < n → l.getD i noRg = m.getD i noRg) → eqG l m = true := fun h => eqG_iff.2 (ext_rg hne (by rw [← hn]; exact h))
    have hF : ∀ i, i < n → l.getD i noRg ≠ m.getD i noRg → eqG l m = false := fun i hi h => by
      have : l ≠ m := by rintro rfl; exact h rfl
      simp [eqG, this]
    have HE := hid hE
    have HF := hid hF
    rw [← hne] at H2 q2 ⊢
    rw [← hn] at H1 H2 q1 q2 m1 ⊢
    clear hE hF h1 h2 hne hn m2
    go_enter Try.func14, Try.ntmps14
    go_wp2
    go_loopw [5] (fun iv wr => ∃ k q : Nat, k ≤ n ∧ iv = .int .i64 k ∧ wr = w.drewN q ∧ Hid (∀ i, i < k → l.getD i noRg = m.getD i noRg)) (fun iv _ => n - (intOf iv).toNat)
    case atStart => exact ⟨0, 0, by omega, rfl, rfl, fun i hi => absurd hi (by omega)⟩
    case round =>
      obtain ⟨k, q, hk, rfl, rfl, hall⟩ := hrel
      by_cases hlt : k < n
      · rcases H1.out with hc | ⟨b1, o1, rfl, -, c1⟩
        · omega
        rcases H2.out with hc | ⟨b2, o2, rfl, -, c2⟩
        · omega
        obtain ⟨d1, d2, d3⟩ := c1 k hlt
        obtain ⟨g1, g2, g3⟩ := c2 k hlt
        have hf := hid (HF.out k hlt)
        have hnx : l.getD k noRg = m.getD k noRg → ∀ i, i < k + 1 → l.getD i noRg = m.getD i noRg := fun he i hi => by
          rcases Nat.lt_or_ge i k with h | h
          · exact hall.out i h
          · obtain rfl : i = k := by omega
            exact he
        have HNX := hid hnx
        clear hnx c1 c2
        generalize l.getD k noRg = r at d1 d2 d3 hf HNX
        generalize m.getD k noRg = s at g1 g2 g3 hf HNX
        obtain ⟨rf, rt, rv⟩ := r
        obtain ⟨sf, st, sv⟩ := s
        simp only at d1 d2 d3 g1 g2 g3
        have hq := neq_rg rf rt rv sf st sv
        have hg := (by kernel_rfl : Try.prog.eqGuardType Try.prog.depth 43 = false)
        by_cases he : (⟨rf, rt, rv⟩ : Rg) = ⟨sf, st, sv⟩
        · have hr := hid (HNX.out he)
          rw [decide_eq_true he] at hq
          clear he
          go_wp2
          go_quiet (fail)
          go_wp2
          go_roundw
          case rel => exact ⟨k + 1, q + nq, by omega, by go_num, by first | rfl | exact World.drewN_drewN _ _ _, hr.out⟩
          case measure => simp [intOf]; omega
        · have hr := hid (hf.out he)
          rw [decide_eq_false he] at hq
          clear he
          go_wp2
          go_quiet (fail)
          go_wp2
          go_ret
          exact ⟨ret_bool hr.out.symm, drewN_ex _ _ _⟩
      · obtain rfl : k = n := by omega
        have hr := hid (HE.out hall.out)
        go_wp2
        go_ret
        exact ⟨ret_bool hr.out.symm, q, rfl⟩
  · have hf : eqG l m = false := by
      have : l ≠ m := by rintro rfl; exact hne rfl
      simp [eqG, this]
    rw [hf]
    clear hf h1 h2 q1 q2
    have ht : ((l.length : Int) != (m.length : Int)) = true := by simp; omega
    clear hne
    generalize l.length = l1 at ht m1 ⊢
    generalize m.length = l2 at ht m2 ⊢
    go_enter Try.func14, Try.ntmps14
    go_wp2
    go_ret
    exact ⟨rfl, 0, rfl⟩
end Go.Proofs.Ytlngnmcflooccaa
