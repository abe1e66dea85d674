/- Contract of the helper that compares two slices of slices of bytes: it answers whether they are equal, and changes nothing. -/
import Derived.Test.YtgdbjbkmkdkhhaaGrid
namespace Go.Proofs.Ytgdbjbkmkdkhhaa
open Go.RowKit

theorem ext_rows {xs ys : List (List Int)} (hl : xs.length = ys.length) (h : ∀ i, i < xs.length → xs.getD i [] = ys.getD i []) : xs = ys := by
  apply List.ext_getElem hl
  intro i h1 h2
  have := h i h1
  simpa [List.getD_eq_getElem?_getD, List.getElem?_eq_getElem h1, List.getElem?_eq_getElem h2] using this

theorem keepRows (v1 v2 : Value) (xss yss : List (List Int)) (w : World) (h1 : Rws w v1 xss) (h2 : Rws w v2 yss) :
    Calls Try.prog 19 #[v1, v2] w fun e w' => e = .returned (.bool (eqR xss yss)) ∧ ∃ n, w' = w.drewN n := by
  obtain ⟨vs1, l1, s1, r1⟩ := h1
  obtain ⟨vs2, l2, s2, r2⟩ := h2
  obtain ⟨a1, cap1, rfl, q1, m1, h1⟩ := s1
  obtain ⟨a2, cap2, rfl, q2, m2, h2⟩ := s2
  have m1 : xss.length ≤ 9223372036854775807 := by unfold maxLen at m1; omega
  have m2 : yss.length ≤ 9223372036854775807 := by unfold maxLen at m2; omega
  rw [l1] at q1 h1 ⊢
  rw [l2] at q2 h2 ⊢
  by_cases hne : xss.length = yss.length
  · rcases Nat.eq_zero_or_pos xss.length with h0 | h0
    · have hx : xss = [] := List.eq_nil_of_length_eq_zero h0
      have hy : yss = [] := List.eq_nil_of_length_eq_zero (by omega)
      subst hx hy
      clear h1 h2 hne h0 r1 r2 l1 l2
      simp only [List.length_nil]
      go_enter Try.func19, Try.ntmps19
      go_wp2
      go_loopw [5] (fun i wr => i = .int .i64 0 ∧ wr = w) (fun i _ => 0)
      case atStart => exact ⟨rfl, rfl⟩
      case round =>
        obtain ⟨rfl, rfl⟩ := hrel
        go_wp2
        go_ret
        exact ⟨rfl, 0, rfl⟩
    · rcases h1 with hc | ⟨b1, o1, rfl, hb1, c1⟩
      · omega
      rcases h2 with hc | ⟨b2, o2, rfl, hb2, c2⟩
      · omega
      rw [← hne] at c2 r2 ⊢
      have HN := hid hne
      obtain ⟨len, hlen⟩ : ∃ len, len = xss.length := ⟨_, rfl⟩
      clear q1 q2 l1 l2
      rw [← hlen] at c1 c2 m1 h0 r1 r2 ⊢
      have HL := hid hlen
      clear hlen m2 hne
      have C1 := hid c1
      have C2 := hid c2
      have R1 := hid r1
      have R2 := hid r2
      clear c1 c2 hb1 hb2 r1 r2
      go_enter Try.func19, Try.ntmps19
      go_wp2
      go_loopw [5] (fun i wr => ∃ k n : Nat, k ≤ len ∧ i = .int .i64 k ∧ wr = w.drewN n ∧ Hid (∀ i, i < k → xss.getD i [] = yss.getD i [])) (fun i _ => len - (intOf i).toNat)
      case atStart => exact ⟨0, 0, by omega, rfl, rfl, fun i hi => absurd hi (by omega)⟩
      case round =>
        obtain ⟨k, n, hk, rfl, rfl, hall⟩ := hrel
        by_cases hlt : k < len
        · have d1 := C1.out k hlt
          have d2 := C2.out k hlt
          have e1 := hid (R1.out k hlt)
          have e2 := hid (R2.out k hlt)
          generalize vs1.getD k undef = u1 at d1 e1
          generalize vs2.getD k undef = u2 at d2 e2
          obtain ⟨X, hX⟩ : ∃ X, X = xss.getD k [] := ⟨_, rfl⟩
          obtain ⟨Y, hY⟩ : ∃ Y, Y = yss.getD k [] := ⟨_, rfl⟩
          rw [← hX] at e1
          rw [← hY] at e2
          have HX := hid hX
          have HY := hid hY
          clear hX hY
          go_wp2
          go_quiet (first | (go_at_call 17; exact quiet_at (keepBytes u1 u2 X Y _ (e1.out.drewN _) (e2.out.drewN _))))
          by_cases he : eqL X Y = true
          · rw [he]
            go_wp2
            go_roundw
            case rel =>
              refine ⟨k + 1, _, by omega, by go_num, rfl, fun i hi => ?_⟩
              rcases Nat.lt_or_ge i k with h | h
              · exact hall.out i h
              · obtain rfl : i = k := by omega
                rw [← HX.out, ← HY.out]
                exact eqL_iff.1 he
            case measure => simp [intOf]; omega
          · have he2 : eqL X Y = false := by simpa using he
            rw [he2]
            go_wp2
            go_ret
            refine ⟨ret_bool ?_, drewN_ex _ _ _⟩
            have hxy : X ≠ Y := fun h => he (eqL_iff.2 h)
            have : xss ≠ yss := by
              rintro rfl
              exact hxy (by rw [HX.out, HY.out])
            simp [eqR, this]
        · go_wp2
          go_ret
          refine ⟨ret_bool ?_, n, rfl⟩
          exact (eqR_iff.2 (ext_rows HN.out fun i hi => hall.out i (by rw [← HL.out] at hi; omega))).symm
  · have hf : eqR xss yss = false := by
      have : xss ≠ yss := by rintro rfl; exact hne rfl
      simp [eqR, this]
    rw [hf]
    clear hf h1 h2 q1 q2 r1 r2 l1 l2
    have ht : ((xss.length : Int) != (yss.length : Int)) = true := by simp; omega
    clear hne
    generalize xss.length = l1 at ht m1 ⊢
    generalize yss.length = l2 at ht m2 ⊢
    go_enter Try.func19, Try.ntmps19
    go_wp2
    go_ret
    exact ⟨rfl, 0, rfl⟩

end Go.Proofs.Ytgdbjbkmkdkhhaa
