/- Several texts in one: Ref6c. -/
import Derived.Test.YtildhebaikeknaaGreatPk26
/-! Ref6c -/
namespace Go.Proofs.YtildhebaikeknaaGreat
open Go.RowKit

set_option maxRecDepth 100000 in
theorem canon_off : (tabCanon.all fun r => scalarB r.f) = true := by decide +kernel
theorem canon_row (c : Int) : rowS (fndS (fun r => r.f == c) tabCanon) = canonS c := by
  cases hb : scalarB c with
  | true => exact canonS_t hb
  | false =>
    rw [← canonS_f hb]
    have key : ∀ l : List Rg, (l.all fun r => scalarB r.f) = true → fndS (fun r => r.f == c) l = (noRg, false) := fun l => by
      induction l with
      | nil => intro _; rfl
      | cons r l ih =>
        intro h
        simp only [List.all_cons, Bool.and_eq_true] at h
        rw [fndS]
        split
        · rename_i he
          have := eq_of_beq he
          rw [this, hb] at h
          simp at h
        · exact ih h.2
    rw [key _ canon_off]
    rfl

set_option maxHeartbeats 2000000 in
theorem refTCanon (B : Nat) (c : Int) (w : World) (h : TabsAt B w) : Calls Tryz.prog 87 #[.pointer (some ⟨B, 0, none⟩), .int .i64 c] w fun e w' => ∃ x, e = .returned x ∧ Sl .i64 w' x (canonS c) ∧ Below w.heap.size w w' := by
  obtain ⟨v1, v2, v3, v4, v5, hx, h1, h2, h3, h4, h5⟩ := h
  have HX := hid hx
  clear h2 h3 h4 h5 hx
  have ml := h1.len
  obtain ⟨l, hl⟩ : ∃ l, l = tabCanon := ⟨_, rfl⟩
  have hR : rowS (fndS (fun r => r.f == c) l) = canonS c := by rw [hl]; exact canon_row c
  rw [← hl] at h1 ml
  clear hl
  obtain ⟨a1, cap1, rfl, q1, -, h1⟩ := h1
  obtain ⟨n, hn⟩ : ∃ n, n = l.length := ⟨_, rfl⟩
  obtain ⟨R, hRR⟩ : ∃ R, R = canonS c := ⟨_, rfl⟩
  rw [← hRR] at hR ⊢
  have hH : ∀ k, k < n → (∀ i, i < k → ((l.getD i noRg).f == c) = false) → ((l.getD k noRg).f == c) = true → R = rowS (l.getD k noRg, true) := fun k hk ha hh => by rw [← hR, fndS_hit (p := fun r => r.f == c) (by omega) ha hh]
  have hN : (∀ i, i < n → ((l.getD i noRg).f == c) = false) → R = [] := fun ha => by rw [← hR, fndS_none (p := fun r => r.f == c) (by rw [← hn]; exact ha)]; rfl
  have HH := hid hH
  have HN := hid hN
  have H1 := hid h1
  rw [← hn] at ml q1 H1 HX
  clear hH hN h1 hn hR hRR
  have x0 := HX.out.cell 0
  simp only [List.getElem?_cons_zero] at x0
  go_enter Tryz.func87, Tryz.ntmps87
  go_wp2_with (fail)
  go_loopw [5] (fun iv wr => ∃ k : Nat, k ≤ n ∧ iv = .int .i64 k ∧ Hid (Below w.heap.size w wr) ∧ Hid (∀ i, i < k → ((l.getD i noRg).f == c) = false)) (fun iv _ => n - (intOf iv).toNat)
  case atStart => exact ⟨0, by omega, rfl, Below.refl _ _, fun i hi => absurd hi (by omega)⟩
  case round =>
    obtain ⟨k, hk, rfl, hbel, hall⟩ := hrel
    have x0 := (HX.out.below hbel.out HX.out.lt).cell 0
    simp only [List.getElem?_cons_zero] at x0
    by_cases hlt : k < n
    · rcases H1.out with hc | ⟨b1, o1, rfl, hb1, c1⟩
      · omega
      have hb1' := hb1 (by omega)
      obtain ⟨d1, d2, d3⟩ := c1 k hlt
      have d1 := (hbel.out.cell (p := ⟨b1, o1 + k * 3, none⟩) hb1').trans d1
      have d2 := (hbel.out.cell (p := ⟨b1, o1 + k * 3 + 1, none⟩) hb1').trans d2
      have d3 := (hbel.out.cell (p := ⟨b1, o1 + k * 3 + 2, none⟩) hb1').trans d3
      have hh := hid (HH.out k hlt hall.out)
      have HNX := hid (show ((l.getD k noRg).f == c) = false → ∀ i, i < k + 1 → ((l.getD i noRg).f == c) = false from fun he i hi => by
        rcases Nat.lt_or_ge i k with h | h
        · exact hall.out i h
        · obtain rfl : i = k := by omega
          exact he)
      clear c1
      generalize l.getD k noRg = r at d1 d2 d3 hh HNX
      obtain ⟨rf, rt, rv⟩ := r
      simp only at d1 d2 d3 hh HNX
      obtain ⟨b, hb⟩ : ∃ b, b = (rf == c) := ⟨_, rfl⟩
      rw [← hb] at hh HNX
      replace hb := hb.symm
      have HB2 := hid (hbel.out.alloc hbel.out.size (.cells #[.int .i64 rf, .int .i64 rt, .int .i64 rv] 49))
      cases b with
      | true =>
        have hr := hh.out rfl
        obtain ⟨y, hy⟩ : ∃ y, y = (rv == 0) := ⟨_, rfl⟩
        have hr2 : R = if y then [rt] else [rt, rv] := by rw [hy]; exact hr
        clear hr
        replace hy := hy.symm
        cases y with
        | true =>
          have HR := hid (show R = [rt] from hr2)
          clear hr2
          go_wp2_with (fail)
          go_ret
          exact ⟨_, rfl, by rw [HR.out]; exact lit_sl (by first | simp | rfl) rfl rfl (by simp), HB2.out.alloc HB2.out.size _⟩
        | false =>
          have HR := hid (show R = [rt, rv] from hr2)
          clear hr2
          go_wp2_with (fail)
          go_ret
          exact ⟨_, rfl, by rw [HR.out]; exact lit_sl (by first | simp | rfl) rfl rfl (by simp), HB2.out.alloc HB2.out.size _⟩
      | false =>
        have hr := hid (HNX.out rfl)
        go_wp2_with (fail)
        go_roundw
        case rel => exact ⟨k + 1, by omega, by go_num, HB2.out, hr.out⟩
        case measure => simp [intOf]; omega
    · obtain rfl : k = n := by omega
      have hr := hid (HN.out hall.out)
      go_wp2_with (fail)
      go_ret
      exact ⟨_, rfl, by rw [hr.out]; exact sl_nil _ _, hbel.out⟩
end Go.Proofs.YtildhebaikeknaaGreat
