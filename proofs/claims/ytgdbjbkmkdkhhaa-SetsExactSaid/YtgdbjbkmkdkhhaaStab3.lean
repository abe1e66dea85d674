/- Contract of the library's merge of two neighbouring runs in order, where the left one has one element (slices.symMergeCmpFunc at []int). -/
import Derived.Test.YtgdbjbkmkdkhhaaStab2
namespace Go.Proofs.Ytgdbjbkmkdkhhaa
open Go.RowKit

/-- the comparison that Place hands to the library (its variable in block B), while block g is written -/
def CmpAt (l : List (List Int)) (B g : Nat) (w : World) : Prop := ∀ wr, w.grownBy wr (some g) → ∀ x y : Nat, x < l.length → y < l.length →
  Calls Try.prog 24 #[.int .i64 x, .int .i64 y, .pointer (some ⟨B, 0, none⟩)] wr fun e w' => e = .returned (.int .i64 (cmpS (rowAt l x) (rowAt l y))) ∧ ∃ q, w' = wr.drewN q
theorem CmpAt.next {l : List (List Int)} {B g : Nat} {w w1 : World} (h : CmpAt l B g w) (k : w.grownBy w1 (some g)) : CmpAt l B g w1 := fun wr hg x y hx hy =>
  h wr ⟨hg.os.trans k.os, hg.tape.trans k.tape, hg.output.trans k.output, Nat.le_trans k.size hg.size, fun i hi hn => (hg.block i (Nat.lt_of_lt_of_le hi k.size) hn).trans (k.block i hi hn)⟩ x y hx hy

theorem CmpAt.run {l : List (List Int)} {B g : Nat} {w : World} (h : CmpAt l B g w) (n m : Nat) {x y : Nat} (hx : x < l.length) (hy : y < l.length) :
    Calls Try.prog 24 #[.int .i64 x, .int .i64 y, .pointer (some ⟨B, 0, none⟩)] (w.drewN (n + m)) fun e w' => e = .returned (.int .i64 (cmpS (rowAt l x) (rowAt l y))) ∧ ∃ k, w' = w.drewN (n + k) :=
  quiet_at (h (w.drewN (n + m)) ⟨rfl, rfl, rfl, Nat.le_refl _, fun _ _ _ => rfl⟩ x y hx hy)

/-- x moved over the first c of R -/
def shL (A R C : List Nat) (x c : Nat) : List Nat := A ++ R.take c ++ x :: (R.drop c ++ C)
theorem shL_zero (A R C : List Nat) (x : Nat) : shL A R C x 0 = A ++ [x] ++ R ++ C := by simp [shL]
theorem shL_len (A R C : List Nat) (x c : Nat) : (shL A R C x c).length = A.length + 1 + R.length + C.length := by simp [shL]; omega
theorem shL_step {A R C : List Nat} {x c : Nat} (h : c < R.length) : sw (shL A R C x c) (A.length + c) (A.length + c + 1) = shL A R C x (c + 1) := by
  have e : R.drop c = R.getD c 0 :: R.drop (c + 1) := by
    rw [List.drop_eq_getElem_cons h, List.getD_eq_getElem?_getD, List.getElem?_eq_getElem h]; rfl
  have e2 : R.take (c + 1) = R.take c ++ [R.getD c 0] := by
    rw [List.take_add_one, List.getD_eq_getElem?_getD, List.getElem?_eq_getElem h]; rfl
  have hl : A.length + c = (A ++ R.take c).length := by rw [List.length_append, List.length_take]; omega
  unfold shL
  rw [e, e2, hl, List.cons_append, sw_next]
  simp
theorem shL_end (A R C : List Nat) (x c : Nat) : shL A R C x c = A ++ (R.take c ++ x :: R.drop c) ++ C := by simp [shL]

set_option maxHeartbeats 2000000 in
set_option maxRecDepth 100000 in
theorem symLeft (l : List (List Int)) (B g cap n : Nat) (A R C : List Nat) (x a m b : Nat) (w : World) (hb : Box 3 (cv (A ++ [x] ++ R ++ C)) g w) (hp : A.length + 1 + R.length + C.length = n) (hn : n ≤ 1000000)
    (ha : a = A.length) (hm : m = a + 1) (hbb : b = m + R.length) (hc : CmpAt l B g w) (hx : x < l.length) (hR : ∀ y ∈ R, x < y ∧ y < l.length) (hs : R.Pairwise (ilt l)) :
    Calls Try.prog 31 #[.slice (some ⟨g, 0, none⟩) n cap, .int .i64 a, .int .i64 m, .int .i64 b, .func (.func 24) #[] #[.pointer (some ⟨B, 0, none⟩)]] w fun e w' => e = .returned (.tuple #[]) ∧
      ∃ M, M.Perm ([x] ++ R) ∧ M.Pairwise (ilt l) ∧ Rown g w (A ++ M ++ C) w' := by
  have HR := hid (Rown.refl hb)
  have HC := hid hc
  have hbn : b ≤ n := by omega
  have HA := hid (show a = A.length ∧ m = a + 1 ∧ b = m + R.length by omega)
  have HP := hid hp
  have HX := hid hx
  have HRR := hid hR
  have HS := hid hs
  have w1 : (m : Int) - (a : Int) = 1 := by omega
  have han : a < m := by omega
  clear hb hc ha hm hbb hp hx hR hs
  go_enter Try.func31, Try.ntmps31
  go_wp2
  go_loopw [10, 11] (fun iv jv wr => ∃ (i j q : Nat), iv = .int .i64 i ∧ jv = .int .i64 j ∧ wr = w.drewN q ∧ m ≤ i ∧ i ≤ j ∧ j ≤ b ∧ Hid (i = m ∨ ilt l (R.getD (i - 1 - m) 0) x) ∧ Hid (j = b ∨ ilt l x (R.getD (j - m) 0))) (fun iv jv _ => (intOf jv).toNat - (intOf iv).toNat)
  case atStart => exact ⟨m, b, 0, rfl, rfl, rfl, by omega, by have := HA.out; omega, by omega, .inl rfl, .inl rfl⟩
  case round =>
    obtain ⟨i, j, q, rfl, rfl, rfl, hmi, hij, hjb, hI, hJ⟩ := hrel
    by_cases hlt : i < j
    · obtain ⟨h, hh⟩ : ∃ h, h = (i + j) / 2 := ⟨_, rfl⟩
      have w2 : ((i : Int) + (j : Int)) / 2 = (h : Int) := by omega
      have hih : i ≤ h := by omega
      have hhj : h < j := by omega
      have han' : a < n := by omega
      have hhn : h < n := by omega
      clear hh
      have hlen : (A ++ [x] ++ R ++ C).length = n := by have := HP.out; simp; omega
      have hhR : h - m < R.length := by have := HA.out; omega
      have c1 : w.cell? ⟨g, h, none⟩ = some (.int .i64 (R.getD (h - m) 0 : Nat)) := by
        have := HR.out.at (i := h) (by omega)
        rwa [at_right (by have := HA.out; simp; omega) (by have := HA.out; simp; omega), show A.length + [x].length = m by have := HA.out; simp; omega] at this
      have c2 : w.cell? ⟨g, a, none⟩ = some (.int .i64 (x : Nat)) := by
        have := HR.out.at (i := a) (by omega)
        rw [show A ++ [x] ++ R ++ C = A ++ x :: (R ++ C) by simp, HA.out.1, getD_mid] at this
        rw [HA.out.1]; exact this
      obtain ⟨y, hy⟩ : ∃ y, y = R.getD (h - m) 0 := ⟨_, rfl⟩
      rw [← hy] at c1
      have hyR := HRR.out y (by rw [hy]; exact getD_mem hhR)
      have HY := hid hy
      have HYX := hid hyR
      clear hy hyR hhR hlen
      go_wp2
      go_quiet (first | (go_at_call 24; exact HC.out.run _ _ HYX.out.2 HX.out))
      by_cases he : cmpS (rowAt l y) (rowAt l x) < 0
      · have HN : Hid (ilt l (R.getD (h + 1 - 1 - m) 0) x) := hid (by rw [Nat.add_sub_cancel, ← HY.out]; exact (cmp_lt HYX.out.1).1 he)
        generalize cmpS (rowAt l y) (rowAt l x) = c at he
        go_wp2
        go_roundw
        case rel => exact ⟨h + 1, j, q + nq, by go_num, rfl, by first | rfl | exact World.drewN_drewN _ _ _, by omega, by omega, hjb, .inr HN.out, hJ.out⟩
        case measure => simp [intOf]; omega
      · have HN : Hid (ilt l x (R.getD (h - m) 0)) := hid (by rw [← HY.out]; exact (cmp_ge HYX.out.1).1 he)
        generalize cmpS (rowAt l y) (rowAt l x) = c at he
        go_wp2
        go_roundw
        case rel => exact ⟨i, h, q + nq, rfl, rfl, by first | rfl | exact World.drewN_drewN _ _ _, hmi, hih, by omega, hI.out, .inr HN.out⟩
        case measure => simp [intOf]; omega
    · obtain rfl : j = i := by omega
      obtain ⟨t, ht⟩ : ∃ t, t = j - m := ⟨_, rfl⟩
      have hjt : j = a + 1 + t := by have := HA.out; omega
      have htR : t ≤ R.length := by have := HA.out; omega
      have HPW := hid (pw_put (x := x) HS.out htR (by rcases hI.out with h | h; exact .inl (by omega); exact .inr (by rw [ht]; rwa [show j - m - 1 = j - 1 - m by omega])) (by rcases hJ.out with h | h; exact .inl (by have := HA.out; omega); exact .inr (by rw [ht]; exact h)))
      obtain ⟨e1, he1⟩ : ∃ e1, e1 = a + t := ⟨_, rfl⟩
      have w5 : (j : Int) - 1 = (e1 : Int) := by omega
      have hatn : e1 < n := by omega
      have HE1 := hid he1
      have HB0 : Hid (Rown g w (shL A R C x 0) (w.drewN q)) := hid (by rw [shL_zero]; exact HR.out.drewN q)
      have HTR := hid htR
      clear hI hJ ht htR w1 he1
      go_wp2
      go_loopw [13] (fun kv wr => ∃ c k : Nat, k ≤ e1 ∧ kv = .int .i64 k ∧ Hid (k = a + c) ∧ Hid (Rown g w (shL A R C x c) wr)) (fun kv _ => e1 - (intOf kv).toNat)
      case atStart => exact ⟨0, a, by have := HE1.out; omega, rfl, rfl, HB0.out⟩
      case round =>
        obtain ⟨c, k, hke, rfl, hk, hr⟩ := hrel
        by_cases hlt : k < e1
        · have hk := hk.out
          have hct : c < t := by have := HE1.out; omega
          obtain ⟨k1, hk1⟩ : ∃ k1, k1 = k + 1 := ⟨_, rfl⟩
          have hst := shL_step (A := A) (R := R) (C := C) (x := x) (c := c) (by have := HTR.out; omega)
          obtain ⟨p, hpp⟩ : ∃ p, p = shL A R C x c := ⟨_, rfl⟩
          have hpl : p.length = n := by rw [hpp, shL_len]; exact HP.out
          rw [← hpp] at hr hst
          rw [← HA.out.1, ← hk, ← hk1] at hst
          have HST := hid hst
          have c1 := hr.out.at (i := k) (by omega)
          have c2 := hr.out.at (i := k1) (by omega)
          have f1 := hr.out.ice k
          have f2 := hr.out.ice k1
          obtain ⟨u, hu⟩ : ∃ u, u = p.getD k 0 := ⟨_, rfl⟩
          obtain ⟨v, hv⟩ : ∃ v, v = p.getD k1 0 := ⟨_, rfl⟩
          rw [← hu] at c1
          rw [← hv] at c2
          have HU := hid hu
          have HV := hid hv
          have w6 : (k : Int) + 1 = (k1 : Int) := by omega
          have n1 : k ≠ k1 := by omega
          have n2 : k1 ≠ k := by omega
          have b1 : k < n := by omega
          have b2 : k1 < n := by omega
          have HK := hid (show k = a + c ∧ k1 = k + 1 from ⟨hk, hk1⟩)
          clear hct hk hk1 hu hv hst hpl hpp
          go_wp2
          go_big_region
          all_goals go_wp2
          go_roundw
          case rel => exact ⟨c + 1, k1, by omega, by go_num, by have := HK.out; show k1 = a + (c + 1); omega, by rw [← HST.out]; exact (hr.out.swap k k1 (by rw [HU.out]) (by rw [HV.out])).drewN 1⟩
          case measure => simp [intOf]; omega
        · obtain rfl : c = t := by have := HE1.out; have := hk.out; omega
          obtain rfl : k = e1 := by omega
          go_wp2
          (try simp only [Exit.inBlock, Exit.then]); refine bodyPost_ret (results_none rfl _ _ _) rfl ?_
          exact ⟨rfl, _, put_perm R x c, HPW.out, by rw [← shL_end]; exact hr.out⟩
end Go.Proofs.Ytgdbjbkmkdkhhaa
