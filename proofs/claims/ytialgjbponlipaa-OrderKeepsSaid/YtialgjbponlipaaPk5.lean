/- Several texts in one: ItS4, Stab5, Stab6. -/
import Derived.Test.YtialgjbponlipaaPk4
import Derived.Test.YtialgjbponlipaaPk3
import Derived.Deep.DeepCutAuto
/-! ItS4 -/
namespace Go.Proofs.Ytialgjbponlipaa
open Go.RowKit

set_option maxHeartbeats 2000000 in
set_option maxRecDepth 100000 in
theorem symRightI (it : List (Int × Int)) (g off cap n : Nat) (pre post : List Value) (l : List (List Int)) (hlc : l = lcl it) (A L C : List Nat) (y a m b : Nat) (w : World) (hb : Rit0 it g off pre post (A ++ L ++ [y] ++ C) w) (hp : A.length + L.length + 1 + C.length = n) (hn : n ≤ 1000000)
    (ha : a = A.length) (hm : m = a + L.length) (hbb : b = m + 1) (hL1 : 1 < L.length) (hy : y < l.length) (hL : ∀ x ∈ L, x < y) (hs : L.Pairwise (ilt l)) :
    Calls Try.prog 38 #[.slice (some ⟨g, off, none⟩) n cap, .int .i64 a, .int .i64 m, .int .i64 b, .func (.func 26) #[] #[]] w fun e w' => e = .returned (.tuple #[]) ∧
      ∃ M, M.Perm (L ++ [y]) ∧ M.Pairwise (ilt l) ∧ Rit it g off pre post w (A ++ M ++ C) w' := by
  have HR := hid (Rit.refl hb)
  have HLC := hid hlc
  have hbn : b ≤ n := by omega
  have HA := hid (show a = A.length ∧ m = a + L.length ∧ b = m + 1 by omega)
  have HP := hid hp
  have HY := hid hy
  have HLL := hid hL
  have HS := hid hs
  obtain ⟨dl, hdl⟩ : ∃ dl, dl = L.length := ⟨_, rfl⟩
  have w1 : (m : Int) - (a : Int) = (dl : Int) := by omega
  have w1' : ((dl : Int) == 1) = false := by simp; omega
  have w0 : (b : Int) - (m : Int) = 1 := by omega
  have ham : a ≤ m := by omega
  have hmb : m < b := by omega
  obtain ⟨i0, hi0, hz0, hz1, hz2⟩ := info_parts Try.infoItem
  clear hb hlc ha hm hbb hp hy hL hs hL1 hdl
  go_enter Try.func38, Try.ntmps38
  go_wp2
  go_loopw [14, 15] (fun iv jv wr => ∃ (i j : Nat), iv = .int .i64 i ∧ jv = .int .i64 j ∧ Hid (Rit it g off pre post w (A ++ L ++ [y] ++ C) wr) ∧ a ≤ i ∧ i ≤ j ∧ j ≤ m ∧ Hid (i = a ∨ ilt l (L.getD (i - 1 - a) 0) y) ∧ Hid (j = m ∨ ilt l y (L.getD (j - a) 0))) (fun iv jv _ => (intOf jv).toNat - (intOf iv).toNat)
  case atStart => exact ⟨a, m, rfl, rfl, HR.out, by omega, ham, by omega, .inl rfl, .inl rfl⟩
  case round =>
    obtain ⟨i, j, rfl, rfl, hr, hmi, hij, hjb, hI, hJ⟩ := hrel
    by_cases hlt : i < j
    · obtain ⟨h, hh⟩ : ∃ h, h = (i + j) / 2 := ⟨_, rfl⟩
      have w2 : ((i : Int) + (j : Int)) / 2 = (h : Int) := by omega
      have hih : i ≤ h := by omega
      have hhj : h < j := by omega
      have hmn' : m < n := by omega
      have hhn : h < n := by omega
      clear hh
      have hlen : (A ++ L ++ [y] ++ C).length = n := by have := HP.out; simp; omega
      have hhR : h - a < L.length := by have := HA.out; omega
      have gX : (A ++ L ++ [y] ++ C).getD h 0 = L.getD (h - a) 0 := by
        rw [show A ++ L ++ [y] ++ C = A ++ L ++ ([y] ++ C) by simp, at_left (by have := HA.out; omega) (by have := HA.out; omega), ← HA.out.1]
      have gY : (A ++ L ++ [y] ++ C).getD m 0 = y := by
        have hml : m = (A ++ L).length := by have := HA.out; simp; omega
        rw [show A ++ L ++ [y] ++ C = (A ++ L) ++ y :: C by simp, hml, getD_mid]
      obtain ⟨c1, c1'⟩ := hr.out.at (i := h) (by omega)
      obtain ⟨c2, c2'⟩ := hr.out.at (i := m) (by omega)
      rw [gX] at c1 c1'
      rw [gY] at c2 c2'
      obtain ⟨x, hx⟩ : ∃ x, x = L.getD (h - a) 0 := ⟨_, rfl⟩
      rw [← hx] at c1 c1'
      have hyR := HLL.out x (by rw [hx]; exact getD_mem hhR)
      have HX := hid hx
      have HYX := hid hyR
      obtain ⟨xn, hxn⟩ : ∃ n, n = (it.getD x noIt).1 := ⟨_, rfl⟩
      obtain ⟨xc, hxc⟩ : ∃ n, n = (it.getD x noIt).2 := ⟨_, rfl⟩
      obtain ⟨yn, hyn⟩ : ∃ n, n = (it.getD y noIt).1 := ⟨_, rfl⟩
      obtain ⟨yc, hyc⟩ : ∃ n, n = (it.getD y noIt).2 := ⟨_, rfl⟩
      rw [← hyn] at c2
      rw [← hyc] at c2'
      rw [← hxn] at c1
      rw [← hxc] at c1'
      have HLT := hid (cmpI_lt HLC.out HYX.out HY.out hyc hxc)
      have HGE := hid (cmpI_ge HLC.out HYX.out HY.out hyc hxc)
      have s1 := fun u : Later wr => u.cell c1
      have s1' := fun u : Later wr => u.cell c1'
      have s2 := fun u : Later wr => u.cell c2
      have s2' := fun u : Later wr => u.cell c2'
      have HCM := hid (fun u : Later wr => later_call (byClass yn yc xn xc u.w))
      clear hx hyR hhR hlen gY gX hxn hxc hyn hyc c1 c1' c2 c2'
      go_wp2
      refine region_later (by kernel_rfl) (by kernel_rfl) ?_
      repeat (go_big_quiet_step (first | (go_at_call 26; with_reducible exact HCM.out _)))
      refine wpQuiet_nil ?_
      intro _ hw'
      obtain ⟨u, hw''⟩ := hw'
      subst hw''
      have HRU := hid (hr.out.below u.below)
      clear s1 s1' s2 s2'
      generalize u.w = wu at HRU ⊢
      obtain ⟨c, hc⟩ : ∃ c, c = cmpI yc xc := ⟨_, rfl⟩
      rw [← hc] at HLT HGE ⊢
      by_cases he : c < 0
      · have HN : Hid (ilt l y (L.getD (h - a) 0)) := hid (by rw [← HX.out]; exact HLT.out.1 (by omega))
        clear hc
        go_wp2
        · exfalso
          rename_i hz
          simp at hz
          omega
        go_roundw
        case rel => exact ⟨i, h, rfl, rfl, HRU.out, hmi, hih, by omega, hI.out, .inr HN.out⟩
        case measure => simp [intOf]; omega
      · have HN : Hid (ilt l (L.getD (h + 1 - 1 - a) 0) y) := hid (by rw [Nat.add_sub_cancel, ← HX.out]; exact HGE.out.1 (by omega))
        clear hc
        go_wp2
        · go_roundw
          case rel => exact ⟨h + 1, j, by go_num, rfl, HRU.out, by omega, by omega, hjb, .inr HN.out, hJ.out⟩
          case measure => simp [intOf]; omega
        · exfalso
          rename_i hz
          simp at hz
          omega
    · obtain rfl : j = i := by omega
      obtain ⟨t, ht⟩ : ∃ t, t = j - a := ⟨_, rfl⟩
      have hjt : j = a + t := by omega
      have htR : t ≤ L.length := by have := HA.out; omega
      have HPW := hid (pw_put (x := y) HS.out htR (by rcases hI.out with h | h; exact .inl (by omega); exact .inr (by rw [ht]; rwa [show j - a - 1 = j - 1 - a by omega])) (by rcases hJ.out with h | h; exact .inl (by have := HA.out; omega); exact .inr (by rw [ht]; exact h)))
      have HB0 : Hid (Rit it g off pre post w (shL A L C y L.length) wr) := hid (by rw [shL_full]; exact hr.out)
      have HTR := hid htR
      have HJT := hid hjt
      clear hI hJ ht htR w1 hjt
      go_wp2
      go_loopw [17] (fun kv wr => ∃ c k : Nat, j ≤ k ∧ k ≤ m ∧ kv = .int .i64 k ∧ Hid (k = a + c) ∧ Hid (Rit it g off pre post w (shL A L C y c) wr)) (fun kv _ => (intOf kv).toNat)
      case atStart => exact ⟨L.length, m, hjb, by omega, rfl, by have := HA.out; exact this.2.1, HB0.out⟩
      case round =>
        obtain ⟨c, k, hke, hkm, rfl, hk, hr⟩ := hrel
        by_cases hlt : j < k
        · have hk := hk.out
          obtain ⟨c, rfl⟩ : ∃ c', c = c' + 1 := ⟨c - 1, by have := HJT.out; omega⟩
          obtain ⟨k1, rfl⟩ : ∃ k1, k = k1 + 1 := ⟨k - 1, by omega⟩
          have hst := shL_back (A := A) (L := L) (C := C) (y := y) (c := c) (by have := HA.out; omega)
          obtain ⟨p, hpp⟩ : ∃ p, p = shL A L C y (c + 1) := ⟨_, rfl⟩
          have hpl : p.length = n := by rw [hpp, shL_len]; have := HP.out; omega
          rw [← hpp] at hr hst
          obtain ⟨k, hkk⟩ : ∃ k, k = k1 + 1 := ⟨_, rfl⟩
          rw [← HA.out.1, show a + c + 1 = k by omega, show a + c = k1 by omega] at hst
          have HST := hid hst
          obtain ⟨c1, c1'⟩ := hr.out.at (i := k) (by omega)
          obtain ⟨c2, c2'⟩ := hr.out.at (i := k1) (by omega)
          have f1 := hr.out.ice (off + k * 2)
          have f1' := hr.out.ice (off + k * 2 + 1)
          have f2 := hr.out.ice (off + k1 * 2)
          have f2' := hr.out.ice (off + k1 * 2 + 1)
          obtain ⟨un, hun⟩ : ∃ x, x = (it.getD (p.getD k 0) noIt).1 := ⟨_, rfl⟩
          obtain ⟨uc, huc⟩ : ∃ x, x = (it.getD (p.getD k 0) noIt).2 := ⟨_, rfl⟩
          obtain ⟨vn, hvn⟩ : ∃ x, x = (it.getD (p.getD k1 0) noIt).1 := ⟨_, rfl⟩
          obtain ⟨vc, hvc⟩ : ∃ x, x = (it.getD (p.getD k1 0) noIt).2 := ⟨_, rfl⟩
          rw [← hun] at c1
          rw [← huc] at c1'
          rw [← hvn] at c2
          rw [← hvc] at c2'
          have HV := hid (show (un = (it.getD (p.getD k 0) noIt).1 ∧ uc = (it.getD (p.getD k 0) noIt).2 ∧ vn = (it.getD (p.getD k1 0) noIt).1 ∧ vc = (it.getD (p.getD k1 0) noIt).2) ∧ k < p.length ∧ k1 < p.length from ⟨⟨hun, huc, hvn, hvc⟩, by omega, by omega⟩)
          clear hun huc hvn hvc
          have w6 : (k : Int) - 1 = (k1 : Int) := by omega
          have n1 : k ≠ k1 := by omega
          have n2 : k1 ≠ k := by omega
          have b1 : k < n := by omega
          have b2 : k1 < n := by omega
          have HK := hid (show k = a + (c + 1) ∧ k = k1 + 1 by omega)
          rw [← hkk] at hke hkm hlt ⊢
          clear hk hkk hst hpl hpp
          go_wp2
          go_big_region
          all_goals go_wp2
          go_roundw
          case rel => exact ⟨c, k1, by omega, by omega, by first | rfl | go_num, by have := HK.out; show k1 = a + c; omega, by rw [← HST.out]; exact (hr.out.swap k k1 HV.out.2.1 HV.out.2.2 HV.out.1.1 HV.out.1.2.1 HV.out.1.2.2.1 HV.out.1.2.2.2).drewN 1⟩
          case measure => simp [intOf]; omega
        · obtain rfl : k = j := by omega
          obtain rfl : c = t := by have := HJT.out; have := hk.out; omega
          go_wp2
          (try simp only [Exit.inBlock, Exit.then]); refine bodyPost_ret (results_none rfl _ _ _) rfl ?_
          exact ⟨rfl, _, (put_perm L y c).trans (List.perm_append_comm (l₁ := [y]) (l₂ := L)), HPW.out, by rw [← shL_end]; exact hr.out⟩
end Go.Proofs.Ytialgjbponlipaa

/-! Stab5 -/
namespace Go.Proofs.Ytialgjbponlipaa

theorem sym_parts {l : List (List Int)} {L R : List Nat} {a m b mid nn s s0 r0 : Nat} (hm : m = a + L.length) (hb : b = m + R.length) (hmid : mid = (a + b) / 2) (hnn : nn = mid + m)
    (hlo : (mid < m ∧ s0 + b = nn ∧ r0 = mid) ∨ (m ≤ mid ∧ s0 = a ∧ r0 = m)) (h0 : s0 ≤ s) (h1 : s ≤ r0) (hL : L.Pairwise (ilt l)) (hR : R.Pairwise (ilt l))
    (hs : s = s0 ∨ ilt l (L.getD (s - 1 - a) 0) (R.getD (nn - 1 - (s - 1) - m) 0)) (hr : s = r0 ∨ ilt l (R.getD (nn - 1 - s - m) 0) (L.getD (s - a) 0)) :
    a ≤ s ∧ s ≤ m ∧ m ≤ nn - s ∧ nn - s ≤ b ∧ (∀ x ∈ L.take (s - a), ∀ y ∈ R.drop (nn - s - m), ilt l x y) ∧ (∀ x ∈ R.take (nn - s - m), ∀ y ∈ L.drop (s - a), ilt l x y) := by
  refine ⟨by omega, by omega, by omega, by omega, fun x hx y hy => ?_, fun x hx y hy => ?_⟩
  · obtain ⟨i, hi1, hi2, rfl⟩ := mem_take_getD hx
    obtain ⟨j, hj1, hj2, rfl⟩ := mem_drop_getD hy
    rcases hs with hs | hs
    · omega
    · exact ile_trans (pw_le hL (show i ≤ s - 1 - a by omega) (by omega)) (ile_trans' hs (pw_le hR (show nn - 1 - (s - 1) - m ≤ j by omega) hj2))
  · obtain ⟨i, hi1, hi2, rfl⟩ := mem_take_getD hx
    obtain ⟨j, hj1, hj2, rfl⟩ := mem_drop_getD hy
    rcases hr with hr | hr
    · omega
    · exact ile_trans (pw_le hR (show i ≤ nn - 1 - s - m by omega) (by omega)) (ile_trans' hr (pw_le hL (show s - a ≤ j by omega) hj2))
end Go.Proofs.Ytialgjbponlipaa

/-! Stab6 -/
namespace Go.Proofs.Ytialgjbponlipaa
open Go.RowKit

theorem pw_noleft {l : List (List Int)} {L R : List Nat} (h : L.length = 0) (k : R.Pairwise (ilt l)) : (L ++ R).Pairwise (ilt l) := by
  rw [List.eq_nil_of_length_eq_zero h]; exact k
theorem pw_noright {l : List (List Int)} {L R : List Nat} (h : R.length = 0) (k : L.Pairwise (ilt l)) : (L ++ R).Pairwise (ilt l) := by
  rw [List.eq_nil_of_length_eq_zero h, List.append_nil]; exact k
theorem nil_rot {X Y : List Nat} (h : X.length = 0 ∨ Y.length = 0) (A T : List Nat) : A ++ X ++ Y ++ T = A ++ Y ++ X ++ T := by
  rcases h with h | h <;> rw [List.eq_nil_of_length_eq_zero h] <;> simp

end Go.Proofs.Ytialgjbponlipaa
