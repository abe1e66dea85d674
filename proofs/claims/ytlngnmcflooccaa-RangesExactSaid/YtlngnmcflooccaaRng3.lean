/- Contract of package ranges' complete: whether a two-stage table is whole. -/
import Derived.Test.YtlngnmcflooccaaRng2
namespace Go.Proofs.Ytlngnmcflooccaa
open Go.RowKit

open Classical in
/-- complete's answer -/
noncomputable def compB (ix bl : List Int) : Bool := decide (unpOk ix bl)
open Classical in
theorem compB_t {ix bl : List Int} (h : unpOk ix bl) : compB ix bl = true := by unfold compB; exact decide_eq_true h
open Classical in
theorem compB_f {ix bl : List Int} (h : ¬ unpOk ix bl) : compB ix bl = false := by unfold compB; exact decide_eq_false h
open Classical in
theorem compB_iff {ix bl : List Int} : compB ix bl = true ↔ unpOk ix bl := by unfold compB; simp

set_option maxHeartbeats 4000000 in
set_option maxRecDepth 100000 in
theorem rngComplete (u1 u2 : Value) (ix bl : List Int) (w : World) (h1 : Sl .i64 w u1 ix) (h2 : Sl .i64 w u2 bl) :
    Calls Try.prog 24 #[.agg #[u1, u2]] w fun e w' => e = .returned (.bool (compB ix bl)) ∧ Below w.heap.size w w' := by
  have m1 := h1.len
  have m2 := h2.len
  have h2' := h2
  obtain ⟨a1, cap1, rfl, k1, -, h1⟩ := h1
  obtain ⟨a2, cap2, rfl, k2, -, h2⟩ := h2
  obtain ⟨n1, hn1⟩ : ∃ n, n = ix.length := ⟨_, rfl⟩
  obtain ⟨n2, hn2⟩ : ∃ n, n = bl.length := ⟨_, rfl⟩
  have H1 := hid h1
  have H2 := hid h2
  rw [← hn1] at H1 m1 k1 ⊢
  rw [← hn2] at H2 m2 k2 h2' ⊢
  have HN := hid (show n1 = ix.length ∧ n2 = bl.length from ⟨hn1, hn2⟩)
  have HSL := hid h2'
  clear h1 h2 hn1 hn2 h2'
  have HB0 : Hid (Below w.heap.size w (w.alloc (.cells #[.slice a1 n1 cap1, .slice a2 n2 cap2] 25))) := hid (by (repeat (first | exact Below.refl _ _ | exact below_drewN _ | refine Below.drew ?_ | refine Below.alloc ?_ (by first | omega | (simp; done) | (simp; omega)) _ | refine Below.setCell ?_ (by first | (simp; done) | (simp; omega)) _ | refine below_drewN' ?_ _)))
  have HBX : Hid (Box 25 [.slice a1 n1 cap1, .slice a2 n2 cap2] w.heap.size (w.alloc (.cells #[.slice a1 n1 cap1, .slice a2 n2 cap2] 25))) := hid (Box.made w 25 _)
  go_enter Try.func24, Try.ntmps24
  by_cases hl1 : n1 = 4352
  · by_cases hl2 : n2 % 256 = 0
    · subst hl1
      have wm : (n2 : Int) % 256 = 0 := by omega
      have HL2 := hid hl2
      clear hl2
      go_wp2_with (fail)
      clear wm
      generalize w.alloc (.cells #[.slice a1 4352 cap1, .slice a2 n2 cap2] 25) = W at HB0 HBX ⊢
      go_loopw [21] (fun iv wr => ∃ k : Nat, k ≤ 4352 ∧ iv = .int .i64 k ∧ Hid (Below W.heap.size W wr) ∧ Hid (∀ i, i < k → 0 ≤ ix.getD i 0 ∧ ix.getD i 0 < (bl.length / 256 : Nat))) (fun iv _ => 4352 - (intOf iv).toNat)
      case atStart => exact ⟨0, by omega, rfl, Below.refl _ _, fun i hi => absurd hi (by omega)⟩
      case round =>
        obtain ⟨k, hk, rfl, hbel, hall⟩ := hrel
        have hbw := HB0.out.trans (hbel.out.mono HB0.out.size)
        have HBW := hid hbw
        have hbxr := HBX.out.below hbel.out HBX.out.lt
        have x0 := hbxr.cell 0
        have x1 := hbxr.cell 1
        simp only [List.getElem?_cons_zero, List.getElem?_cons_succ] at x0 x1
        by_cases hlt : k < 4352
        · rcases H1.out with hcap | ⟨b1, o1, rfl, hb1, c1⟩
          · exfalso; omega
          have d1 := (HBW.out.cell (p := ⟨b1, o1 + k, none⟩) (hb1 (by omega))).trans (c1 k hlt)
          obtain ⟨z, hz0⟩ : ∃ z, z = ix.getD k 0 := ⟨_, rfl⟩
          rw [← hz0] at d1
          have hz := hid hz0.symm
          clear hz0
          clear c1 hb1
          obtain ⟨hv, hhv⟩ : ∃ hv, hv = decide (0 ≤ z ∧ z < (bl.length / 256 : Nat)) := ⟨_, rfl⟩
          have HHV := hid hhv
          have HQ := hid (rngHas (.slice (some ⟨b1, o1, none⟩) 4352 cap1) (.slice a2 n2 cap2) bl z wr (HSL.out.below HBW.out))
          rw [← hhv] at HQ
          clear hhv
          by_cases hzz : 0 ≤ z ∧ z < (bl.length / 256 : Nat)
          · have hvt : hv = true := by rw [HHV.out]; exact decide_eq_true hzz
            have hnx : ∀ i, i < k + 1 → 0 ≤ ix.getD i 0 ∧ ix.getD i 0 < (bl.length / 256 : Nat) := fun i hi => by
              rcases Nat.lt_or_ge i k with h | h
              · exact hall.out i h
              · obtain rfl : i = k := by omega
                rw [hz.out]; exact hzz
            have HNX := hid hnx
            subst hvt
            clear hzz hnx
            go_wp2_with (go_at_call 26; refine HQ.out.mono ?_; rintro e w3 ⟨rfl, hb3⟩; have HB3 := hid (hbel.out.trans (hb3.mono hbel.out.size)))
            go_roundw
            case rel => exact ⟨k + 1, by omega, by go_num, HB3.out, HNX.out⟩
            case measure => simp [intOf]; omega
          · have hvf : hv = false := by rw [HHV.out]; exact decide_eq_false hzz
            have hno : ¬ unpOk ix bl := fun h => hzz (by have := h.2.2.2 k (by have := HN.out.1; omega); rw [hz.out] at this; exact this)
            have HNO := hid (compB_f hno)
            subst hvf
            clear hzz hno
            go_wp2_with (go_at_call 26; refine HQ.out.mono ?_; rintro e w3 ⟨rfl, hb3⟩; have HB3 := hid (HBW.out.trans (hb3.mono HBW.out.size)))
            go_ret
            exact ⟨ret_bool HNO.out.symm, HB3.out⟩
        · obtain rfl : k = 4352 := by omega
          go_wp2_with (fail)
          go_loopw [33] (fun iv wz => ∃ j : Nat, j ≤ n2 ∧ iv = .int .i64 j ∧ wz = wr ∧ Hid (∀ i, i < j → 0 ≤ bl.getD i 0 ∧ bl.getD i 0 ≤ 65535)) (fun iv _ => n2 - (intOf iv).toNat)
          case atStart => exact ⟨0, by omega, rfl, rfl, fun i hi => absurd hi (by omega)⟩
          case round =>
            obtain ⟨j, hj, rfl, rfl, hval⟩ := hrel
            by_cases hjt : j < n2
            · rcases H2.out with hcap | ⟨b2, o2, rfl, hb2, c2⟩
              · exfalso; omega
              have d2 := (HBW.out.cell (p := ⟨b2, o2 + j, none⟩) (hb2 (by omega))).trans (c2 j hjt)
              obtain ⟨z, hz9⟩ : ∃ z, z = bl.getD j 0 := ⟨_, rfl⟩
              rw [← hz9] at d2
              have hz := hid hz9.symm
              clear hz9
              clear c2 hb2
              by_cases hz0 : z < 0
              · have hno : ¬ unpOk ix bl := fun h => by have := h.2.2.1 j (by have := HN.out.2; omega); rw [hz.out] at this; omega
                have HNO := hid (compB_f hno)
                clear hno
                go_wp2_with (fail)
                go_ret
                exact ⟨ret_bool HNO.out.symm, HBW.out⟩
              · by_cases hz1 : 65535 < z
                · have hno : ¬ unpOk ix bl := fun h => by have := h.2.2.1 j (by have := HN.out.2; omega); rw [hz.out] at this; omega
                  have HNO := hid (compB_f hno)
                  clear hno
                  go_wp2_with (fail)
                  go_ret
                  exact ⟨ret_bool HNO.out.symm, HBW.out⟩
                · have hnx : ∀ i, i < j + 1 → 0 ≤ bl.getD i 0 ∧ bl.getD i 0 ≤ 65535 := fun i hi => by
                    rcases Nat.lt_or_ge i j with h | h
                    · exact hval.out i h
                    · obtain rfl : i = j := by omega
                      rw [hz.out]; omega
                  have HNX := hid hnx
                  clear hnx
                  go_wp2_with (fail)
                  go_roundw
                  case rel => exact ⟨j + 1, by omega, by go_num, by trivial, HNX.out⟩
                  case measure => simp [intOf]; omega
            · obtain rfl : j = n2 := by omega
              have hyes : unpOk ix bl := ⟨HN.out.1.symm, by rw [← HN.out.2]; exact HL2.out, fun i hi => hval.out i (by rw [HN.out.2]; exact hi), fun i hi => hall.out i (by rw [← HN.out.1] at hi; exact hi)⟩
              have HY := hid (compB_t hyes)
              clear hyes
              go_wp2_with (fail)
              go_ret
              exact ⟨ret_bool HY.out.symm, HBW.out⟩
    · subst hl1
      have wm : ((n2 : Int) % 256 != 0) = true := by simp; omega
      have hno : ¬ unpOk ix bl := fun h => hl2 (by rw [HN.out.2]; exact h.2.1)
      have HNO := hid (compB_f hno)
      clear hl2 hno
      go_wp2_with (fail)
      go_ret
      exact ⟨ret_bool HNO.out.symm, HB0.out⟩
  · have wm : ((n1 : Int) != 4352) = true := by simp; omega
    have hno : ¬ unpOk ix bl := fun h => hl1 (by rw [HN.out.1]; exact h.1)
    have HNO := hid (compB_f hno)
    clear hl1 hno
    go_wp2_with (fail)
    go_ret
    exact ⟨ret_bool HNO.out.symm, HB0.out⟩
end Go.Proofs.Ytlngnmcflooccaa
