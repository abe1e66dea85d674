/- Several texts in one: Ref12. -/
import Derived.Test.YtdncmdpacidgmaaPk24
import Derived.Test.YtdncmdpacidgmaaPk17
/-! Ref12 -/
namespace Go.Proofs.Ytdncmdpacidgmaa
open Go.RowKit

set_option maxHeartbeats 1000000 in
theorem refFoldOne12 (B : Nat) (c : Int) (w : World) (h : TabsAt B w) : Calls Try.prog 11 #[.pointer (some ⟨B, 0, none⟩), .int .i64 c] w fun e w' => ∃ x, e = .returned x ∧ Sl .i64 w' x (foldS c) ∧ Below w.heap.size w w' := by
  have HT := hid h
  have H1 := hid (refTFold B c w h)
  by_cases hm : mapS tabFolds c = []
  · have HF := hid (fold_none hm)
    rw [hm] at H1
    clear hm h
    go_enter Try.func11, Try.ntmps11
    go_wp2_with (go_at_call 23; refine H1.out.mono ?_; rintro e w1 ⟨v1, rfl, ho1, hb1⟩; obtain ⟨a1, c1, rfl⟩ := ho1.form; simp only [List.length_nil]; have HB1 := hid hb1; clear ho1 hb1)
    go_ret
    exact ⟨_, rfl, by rw [HF.out]; exact lit_sl (by first | simp | rfl) rfl rfl (by simp), HB1.out.alloc HB1.out.size _⟩
  · have HF := hid (fold_some hm)
    obtain ⟨n, hn⟩ : ∃ n, n = (mapS tabFolds c).length := ⟨_, rfl⟩
    have hn0 : 0 < n := by rw [hn]; exact List.length_pos_iff.2 hm
    have HN := hid hn
    clear hm hn h
    go_enter Try.func11, Try.ntmps11
    go_wp2_with (go_at_call 23; refine H1.out.mono ?_; rintro e w1 ⟨v1, rfl, ho1, hb1⟩; obtain ⟨a1, c1, hv1⟩ := ho1.form; rw [← HN.out] at hv1; subst hv1; have HO1 := hid ho1; have HB1 := hid hb1; clear ho1 hb1)
    go_ret
    exact ⟨_, rfl, by rw [HF.out]; exact HO1.out, HB1.out⟩
set_option maxHeartbeats 4000000 in
theorem refFoldAll12 (B : Nat) (v : Value) (s : List Int) (w : World) (ht : TabsAt B w) (hs : Sl .i64 w v s) (hl : s.length ≤ 1000000) : Calls Try.prog 13 #[.pointer (some ⟨B, 0, none⟩), v] w fun e w' => ∃ x, e = .returned x ∧ Own .i64 3 w.heap.size w' x (foldAllS s) ∧ Below w.heap.size w w' := by
  have HT := hid ht
  have ml := hs.len
  obtain ⟨a1, cap1, rfl, q1, -, h1⟩ := hs
  obtain ⟨m, hm⟩ : ∃ m, m = s.length := ⟨_, rfl⟩
  have H1 := hid h1
  have HM := hid hm
  obtain ⟨F, hF⟩ : ∃ F : Nat → List Int, F = fun j => foldAllS (s.take j) := ⟨_, rfl⟩
  have hFj : ∀ j, foldAllS (s.take j) = F j := fun j => by rw [hF]
  have HF0 := hid (show F 0 = [] by rw [hF]; rfl)
  have HFM := hid (show F m = foldAllS s by rw [hF, hm]; simp)
  have HNX := hid (fun j (hj : j < m) => (show F (j + 1) = F j ++ foldS (s.getD j 0) by
    have e : s.getD j 0 = s[j]'(by omega) := by rw [List.getD_eq_getElem?_getD, List.getElem?_eq_getElem (by omega)]; rfl
    rw [← hFj, ← hFj, e, List.take_succ_eq_append_getElem (by omega), foldAll_app]
    congr 1
    exact List.append_nil _))
  have HFL := hid (fun j => (show (F j).length ≤ 10000000 by rw [← hFj]; have := foldAll_len (s.take j); rw [List.length_take] at this; omega))
  rw [← hm] at ml q1 H1
  clear hF hFj h1 hl ht
  rw [← HFM.out, ← hm]
  clear hm
  go_enter Try.func13, Try.ntmps13
  go_wp2_with (fail)
  go_loopw [5, 6] (fun lv iv wr => ∃ j : Nat, j ≤ m ∧ iv = .int .i64 j ∧ Hid (Own .i64 3 w.heap.size wr lv (F j)) ∧ Hid (Below w.heap.size w wr)) (fun _ iv _ => m - (intOf iv).toNat)
  case atStart => exact ⟨0, by omega, rfl, by show Own _ _ _ _ _ _; rw [HF0.out]; exact Own.nil _ _ _ _, Below.refl _ _⟩
  case round =>
    obtain ⟨j, hj, rfl, hown, hbel⟩ := hrel
    obtain ⟨al, cl, hal⟩ := hown.out.sl.form
    have hfl := HFL.out j
    obtain ⟨nf, hnf⟩ : ∃ nf, nf = (F j).length := ⟨_, rfl⟩
    rw [← hnf] at hal hfl
    subst hal
    have HNF := hid hnf
    clear hnf
    by_cases hlt : j < m
    · rcases H1.out with hc | ⟨b1, o1, rfl, hb1, c1⟩
      · omega
      have hb1' := hb1 (by omega)
      have d1 := (hbel.out.cell (p := ⟨b1, o1 + j, none⟩) hb1').trans (c1 j hlt)
      have HNJ := hid (HNX.out j hlt)
      have hsz := hbel.out.size
      clear c1 hb1
      generalize s.getD j 0 = x at d1 HNJ
      have hlx := fold_len x
      have HONE := hid (fun w h => refFoldOne12 B x w h)
      generalize foldS x = O at hlx HNJ HONE
      have HLX := hid hlx
      clear hlx
      go_wp2_with (first
        | (at_builtin; go_loud (refine wpList_app _ rfl _ _ 22 rfl .i64 w.heap.size 3 8 Try.underlying22 Try.infoI64 _ (F j) O rfl (hown.out.below HB2.out) _ rfl HO2.out (by have := HLX.out; have := HNF.out; unfold maxLen; omega) (by have := HLX.out; have := HNF.out; omega) (by have := HB2.out.size; omega) ?_); intro v5 w5 ho5 hg5 hb5 hn5; clear hg5 hn5)
        | (go_at_call 11; refine (HONE.out wr (HT.out.below hbel.out)).mono ?_; rintro e w2 ⟨v2, rfl, ho2, hb2⟩; have HO2 := hid ho2; have HB2 := hid hb2; clear ho2 hb2))
      go_roundw
      case rel =>
        refine ⟨j + 1, by omega, by go_num, ?_, hbel.out.trans ((HB2.out.mono hsz).trans hb5)⟩
        show Own _ _ _ _ _ _
        rw [HNJ.out]
        exact ho5
      case measure => simp [intOf]; omega
    · obtain rfl : j = m := by omega
      go_wp2_with (fail)
      go_ret
      exact ⟨_, rfl, hown.out, hbel.out⟩
end Go.Proofs.Ytdncmdpacidgmaa
