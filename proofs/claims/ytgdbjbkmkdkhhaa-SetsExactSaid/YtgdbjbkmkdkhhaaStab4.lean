/- Contract of the library's merge of two neighbouring runs in order, where the right one has one element (slices.symMergeCmpFunc at []int). -/
import Derived.Test.YtgdbjbkmkdkhhaaStab3
namespace Go.Proofs.Ytgdbjbkmkdkhhaa
open Go.RowKit

theorem shL_full (A L C : List Nat) (y : Nat) : shL A L C y L.length = A ++ L ++ [y] ++ C := by simp [shL]
theorem shL_back {A L C : List Nat} {y c : Nat} (h : c < L.length) : sw (shL A L C y (c + 1)) (A.length + c + 1) (A.length + c) = shL A L C y c := by
  have e : L.drop c = L.getD c 0 :: L.drop (c + 1) := by
    rw [List.drop_eq_getElem_cons h, List.getD_eq_getElem?_getD, List.getElem?_eq_getElem h]; rfl
  have e2 : L.take (c + 1) = L.take c ++ [L.getD c 0] := by
    rw [List.take_add_one, List.getD_eq_getElem?_getD, List.getElem?_eq_getElem h]; rfl
  have hl : A.length + c = (A ++ L.take c).length := by rw [List.length_append, List.length_take]; omega
  unfold shL
  rw [e, e2, hl, show A ++ (L.take c ++ [L.getD c 0]) ++ y :: (L.drop (c + 1) ++ C) = (A ++ L.take c) ++ L.getD c 0 :: y :: (L.drop (c + 1) ++ C) by simp, sw_prev]
  simp

set_option maxHeartbeats 2000000 in
set_option maxRecDepth 100000 in
theorem symRight (l : List (List Int)) (B g cap n : Nat) (A L C : List Nat) (y a m b : Nat) (w : World) (hb : Box 3 (cv (A ++ L ++ [y] ++ C)) g w) (hp : A.length + L.length + 1 + C.length = n) (hn : n ≤ 1000000)
    (ha : a = A.length) (hm : m = a + L.length) (hbb : b = m + 1) (hL1 : 1 < L.length) (hc : CmpAt l B g w) (hy : y < l.length) (hL : ∀ x ∈ L, x < y) (hs : L.Pairwise (ilt l)) :
    Calls Try.prog 31 #[.slice (some ⟨g, 0, none⟩) n cap, .int .i64 a, .int .i64 m, .int .i64 b, .func (.func 24) #[] #[.pointer (some ⟨B, 0, none⟩)]] w fun e w' => e = .returned (.tuple #[]) ∧
      ∃ M, M.Perm (L ++ [y]) ∧ M.Pairwise (ilt l) ∧ Rown g w (A ++ M ++ C) w' := by
  have HR := hid (Rown.refl hb)
  have HC := hid hc
  have hbn : b ≤ n := by omega
  have HA := hid (show a = A.length ∧ m = a + L.length ∧ b = m + 1 by omega)
  have HP := hid hp
  have HY := hid hy
  have HLL := hid hL
  have HS := hid hs
  obtain ⟨dl, hdl⟩ : ∃ dl, dl = L.length := ⟨_, rfl⟩
  have w1 : (m : Int) - (a : Int) = (dl : Int) := by omega
  have w1' : ((dl : Int) == 1) = false := by simp; omega
  have w0 : (b : Int) - (m : Int) = 1 := by omega
  have ham : a ≤ m := by omega
  have hmb : m < b := by omega
  clear hb hc ha hm hbb hp hy hL hs hL1 hdl
  go_enter Try.func31, Try.ntmps31
  go_wp2
  go_loopw [14, 15] (fun iv jv wr => ∃ (i j q : Nat), iv = .int .i64 i ∧ jv = .int .i64 j ∧ wr = w.drewN q ∧ a ≤ i ∧ i ≤ j ∧ j ≤ m ∧ Hid (i = a ∨ ilt l (L.getD (i - 1 - a) 0) y) ∧ Hid (j = m ∨ ilt l y (L.getD (j - a) 0))) (fun iv jv _ => (intOf jv).toNat - (intOf iv).toNat)
  case atStart => exact ⟨a, m, 0, rfl, rfl, rfl, by omega, ham, by omega, .inl rfl, .inl rfl⟩
  case round =>
    obtain ⟨i, j, q, rfl, rfl, rfl, hmi, hij, hjb, hI, hJ⟩ := hrel
    by_cases hlt : i < j
    · obtain ⟨h, hh⟩ : ∃ h, h = (i + j) / 2 := ⟨_, rfl⟩
      have w2 : ((i : Int) + (j : Int)) / 2 = (h : Int) := by omega
      have hih : i ≤ h := by omega
      have hhj : h < j := by omega
      have hmn' : m < n := by omega
      have hhn : h < n := by omega
      clear hh
      have hlen : (A ++ L ++ [y] ++ C).length = n := by have := HP.out; simp; omega
      have hhR : h - a < L.length := by have := HA.out; omega
      have c1 : w.cell? ⟨g, h, none⟩ = some (.int .i64 (L.getD (h - a) 0 : Nat)) := by
        have := HR.out.at (i := h) (by omega)
        rw [show A ++ L ++ [y] ++ C = A ++ L ++ ([y] ++ C) by simp, at_left (by have := HA.out; omega) (by have := HA.out; omega), ← HA.out.1] at this
        exact this
      have c2 : w.cell? ⟨g, m, none⟩ = some (.int .i64 (y : Nat)) := by
        have := HR.out.at (i := m) (by omega)
        have hml : m = (A ++ L).length := by have := HA.out; simp; omega
        rw [show A ++ L ++ [y] ++ C = (A ++ L) ++ y :: C by simp, hml, getD_mid] at this
        rw [hml]; exact this
      obtain ⟨x, hx⟩ : ∃ x, x = L.getD (h - a) 0 := ⟨_, rfl⟩
      rw [← hx] at c1
      have hyR := HLL.out x (by rw [hx]; exact getD_mem hhR)
      have HX := hid hx
      have HYX := hid hyR
      clear hx hyR hhR hlen
      go_wp2
      go_quiet (first | (go_at_call 24; exact HC.out.run _ _ HY.out (Nat.lt_trans HYX.out HY.out)))
      by_cases he : cmpS (rowAt l y) (rowAt l x) < 0
      · have HN : Hid (ilt l y (L.getD (h - a) 0)) := hid (by rw [← HX.out]; exact (cmp_lt HYX.out).1 he)
        generalize cmpS (rowAt l y) (rowAt l x) = c at he
        go_wp2
        · exfalso
          rename_i hz
          simp at hz
          omega
        go_roundw
        case rel => exact ⟨i, h, q + nq, rfl, rfl, by first | rfl | exact World.drewN_drewN _ _ _, hmi, hih, by omega, hI.out, .inr HN.out⟩
        case measure => simp [intOf]; omega
      · have HN : Hid (ilt l (L.getD (h + 1 - 1 - a) 0) y) := hid (by rw [Nat.add_sub_cancel, ← HX.out]; exact (cmp_ge HYX.out).1 he)
        generalize cmpS (rowAt l y) (rowAt l x) = c at he
        go_wp2
        · go_roundw
          case rel => exact ⟨h + 1, j, q + nq, by go_num, rfl, by first | rfl | exact World.drewN_drewN _ _ _, by omega, by omega, hjb, .inr HN.out, hJ.out⟩
          case measure => simp [intOf]; omega
        · exfalso
          rename_i hz
          simp at hz
          omega
    · obtain rfl : j = i := by omega
      obtain ⟨t, ht⟩ : ∃ t, t = j - a := ⟨_, rfl⟩
      have hjt : j = a + t := by omega
      have htR : t ≤ L.length := by have := HA.out; omega
      have HPW := hid (pw_put (x := y) HS.out htR (by rcases hI.out with h | h; exact .inl (by omega); exact .inr (by rw [ht]; rwa [show j - a - 1 = j - 1 - a by omega])) (by rcases hJ.out with h | h; exact .inl (by have := HA.out; omega); exact .inr (by rw [ht]; exact h)))
      have HB0 : Hid (Rown g w (shL A L C y L.length) (w.drewN q)) := hid (by rw [shL_full]; exact HR.out.drewN q)
      have HTR := hid htR
      have HJT := hid hjt
      clear hI hJ ht htR w1 hjt
      go_wp2
      go_loopw [17] (fun kv wr => ∃ c k : Nat, j ≤ k ∧ k ≤ m ∧ kv = .int .i64 k ∧ Hid (k = a + c) ∧ Hid (Rown g w (shL A L C y c) wr)) (fun kv _ => (intOf kv).toNat)
      case atStart => exact ⟨L.length, m, hjb, by omega, rfl, by have := HA.out; exact this.2.1, HB0.out⟩
      case round =>
        obtain ⟨c, k, hke, hkm, rfl, hk, hr⟩ := hrel
        by_cases hlt : j < k
        · have hk := hk.out
          obtain ⟨c, rfl⟩ : ∃ c', c = c' + 1 := ⟨c - 1, by have := HJT.out; omega⟩
          obtain ⟨k1, rfl⟩ : ∃ k1, k = k1 + 1 := ⟨k - 1, by omega⟩
          have hst := shL_back (A := A) (L := L) (C := C) (y := y) (c := c) (by have := HA.out; omega)
          obtain ⟨p, hpp⟩ : ∃ p, p = shL A L C y (c + 1) := ⟨_, rfl⟩
          have hpl : p.length = n := by rw [hpp, shL_len]; have := HP.out; omega
          rw [← hpp] at hr hst
          obtain ⟨k, hkk⟩ : ∃ k, k = k1 + 1 := ⟨_, rfl⟩
          rw [← HA.out.1, show a + c + 1 = k by omega, show a + c = k1 by omega] at hst
          have HST := hid hst
          have c1 := hr.out.at (i := k) (by omega)
          have c2 := hr.out.at (i := k1) (by omega)
          have f1 := hr.out.ice k
          have f2 := hr.out.ice k1
          obtain ⟨u, hu⟩ : ∃ u, u = p.getD k 0 := ⟨_, rfl⟩
          obtain ⟨v, hv⟩ : ∃ v, v = p.getD k1 0 := ⟨_, rfl⟩
          rw [← hu] at c1
          rw [← hv] at c2
          have HU := hid hu
          have HV := hid hv
          have w6 : (k : Int) - 1 = (k1 : Int) := by omega
          have n1 : k ≠ k1 := by omega
          have n2 : k1 ≠ k := by omega
          have b1 : k < n := by omega
          have b2 : k1 < n := by omega
          have HK := hid (show k = a + (c + 1) ∧ k = k1 + 1 by omega)
          rw [← hkk] at hke hkm hlt ⊢
          clear hk hkk hu hv hst hpl hpp
          go_wp2
          go_big_region
          all_goals go_wp2
          go_roundw
          case rel => exact ⟨c, k1, by omega, by omega, by first | rfl | go_num, by have := HK.out; show k1 = a + c; omega, by rw [← HST.out]; exact (hr.out.swap k k1 (by rw [HU.out]) (by rw [HV.out])).drewN 1⟩
          case measure => simp [intOf]; omega
        · obtain rfl : k = j := by omega
          obtain rfl : c = t := by have := HJT.out; have := hk.out; omega
          go_wp2
          (try simp only [Exit.inBlock, Exit.then]); refine bodyPost_ret (results_none rfl _ _ _) rfl ?_
          exact ⟨rfl, _, (put_perm L y c).trans (List.perm_append_comm (l₁ := [y]) (l₂ := L)), HPW.out, by rw [← shL_end]; exact hr.out⟩
end Go.Proofs.Ytgdbjbkmkdkhhaa
