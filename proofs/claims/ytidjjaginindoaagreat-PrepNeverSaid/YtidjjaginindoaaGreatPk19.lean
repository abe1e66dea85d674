/- Several texts in one: Hang7. -/
import Derived.Test.YtidjjaginindoaaGreatPk3
/-! Hang7 -/
namespace Go.Proofs.YtidjjaginindoaaGreat
open Go.RowKit

def amongB (c lo n : Int) : Bool := decide (lo ≤ c ∧ c < lo + n)
theorem amongOk (c lo n : Int) (w : World) (l0 : 0 ≤ lo) (l1 : lo ≤ 1000000) (n0 : 0 ≤ n) (n1 : n ≤ 1000000) : Calls Tryz.prog 125 #[.int .i64 c, .int .i64 lo, .int .i64 n] w fun e w' => e = .returned (.bool (amongB c lo n)) ∧ w = w' := by
  by_cases h0 : lo ≤ c
  · by_cases h1 : c < lo + n
    · have HR := hid (show amongB c lo n = true from decide_eq_true ⟨h0, h1⟩)
      go_enter Tryz.func125, Tryz.ntmps125
      go_wp2
      go_ret
      exact ⟨by rw [HR.out]; rfl, rfl⟩
    · have HR := hid (show amongB c lo n = false from decide_eq_false (fun h => h1 h.2))
      go_enter Tryz.func125, Tryz.ntmps125
      go_wp2
      go_ret
      exact ⟨by rw [HR.out]; rfl, rfl⟩
  · have HR := hid (show amongB c lo n = false from decide_eq_false (fun h => h0 h.1))
    go_enter Tryz.func125, Tryz.ntmps125
    go_wp2
    go_ret
    exact ⟨by rw [HR.out]; rfl, rfl⟩
def openB (c : Int) : Bool := decide (44032 ≤ c ∧ c ≤ 55203 ∧ (c - 44032) % 28 = 0)
theorem isOpenOk (c : Int) (w : World) : Calls Tryz.prog 126 #[.int .i64 c] w fun e w' => e = .returned (.bool (openB c)) ∧ w = w' := by
  by_cases hin : 44032 ≤ c ∧ c ≤ 55203
  · obtain ⟨n, rfl⟩ : ∃ n : Nat, c = 44032 + (n : Int) := ⟨(c - 44032).toNat, by omega⟩
    have hn : n ≤ 11171 := by omega
    have e1 : (44032 + (n : Int)) - 44032 = (n : Int) := by omega
    have HB := hid (show amongB (44032 + (n : Int)) 44032 11172 = true from decide_eq_true ⟨by omega, by omega⟩)
    obtain ⟨z, hz⟩ : ∃ z, z = ((n : Int) % 28 == 0) := ⟨_, rfl⟩
    have HR := hid (show z = openB (44032 + (n : Int)) by
      rw [hz, Bool.eq_iff_iff]
      unfold openB
      rw [decide_eq_true_iff, beq_iff_eq, e1]
      omega)
    replace hz := hz.symm
    clear hin
    go_enter Tryz.func126, Tryz.ntmps126
    go_wp2_with (go_at_call 125; refine (amongOk (44032 + (n : Int)) 44032 11172 _ (by decide) (by decide) (by decide) (by decide)).mono ?_; rw [HB.out]; rintro e w1 ⟨rfl, rfl⟩)
    go_ret
    exact ⟨by rw [HR.out]; rfl, rfl⟩
  · have HB := hid (show amongB c 44032 11172 = false from decide_eq_false (by omega))
    have HR := hid (show openB c = false from decide_eq_false (fun h => hin ⟨h.1, h.2.1⟩))
    clear hin
    go_enter Tryz.func126, Tryz.ntmps126
    go_wp2_with (go_at_call 125; refine (amongOk c 44032 11172 _ (by decide) (by decide) (by decide) (by decide)).mono ?_; rw [HB.out]; rintro e w1 ⟨rfl, rfl⟩)
    go_ret
    exact ⟨by rw [HR.out]; rfl, rfl⟩

theorem div_div21 (n : Nat) : (n : Int) / 28 / 21 = (n : Int) / 588 := by omega
theorem div_mod21 (n : Nat) : (n : Int) / 28 % 21 = (n : Int) % 588 / 28 := by omega

set_option maxHeartbeats 2000000 in
theorem splitO (c : Int) (w : World) (hc : I64n c) : Calls Tryz.prog 131 #[.int .i64 c] w fun e w' => ∃ x, e = .returned x ∧ Own .i64 3 w.heap.size w' x (splitS c) ∧ Below w.heap.size w w' := by
  obtain ⟨h0, h1⟩ := hc
  by_cases hin : 44032 ≤ c ∧ c ≤ 55203
  · obtain ⟨n, rfl⟩ : ∃ n : Nat, c = 44032 + (n : Int) := ⟨(c - 44032).toNat, by omega⟩
    have hn : n ≤ 11171 := by omega
    have HR := hid (splitS_in hn)
    have e1 : (44032 + (n : Int)) - 44032 = (n : Int) := by omega
    have HB := hid (show amongB (44032 + (n : Int)) 44032 11172 = true from decide_eq_true ⟨by omega, by omega⟩)
    clear hin
    by_cases hm : n % 28 = 0
    · have hm2 : (n : Int) % 28 = 0 := by omega
      have HP := hid (show splitS (44032 + (n : Int)) = [4352 + (n : Int) / 28 / 21, 4449 + (n : Int) / 28 % 21] by rw [HR.out, div_div21, div_mod21]; unfold partsN; rw [if_pos hm])
      clear hm
      go_enter Tryz.func131, Tryz.ntmps131
      go_wp2_with (go_at_call 125; refine (amongOk (44032 + (n : Int)) 44032 11172 _ (by decide) (by decide) (by decide) (by decide)).mono ?_; rw [HB.out]; rintro e w1 ⟨rfl, rfl⟩)
      go_ret
      exact ⟨_, rfl, by rw [HP.out]; exact lit_own rfl (Nat.le_refl _) rfl rfl (by simp), by (repeat (first | exact Below.refl _ _ | exact below_drewN _ | refine Below.drew ?_ | refine Below.alloc ?_ (by simp) _ | refine Below.setCell ?_ (by simp) _ | refine below_drewN' ?_ _))⟩
    · have hm2 : ¬ (n : Int) % 28 = 0 := by omega
      have HP := hid (show splitS (44032 + (n : Int)) = [4352 + (n : Int) / 28 / 21, 4449 + (n : Int) / 28 % 21] ++ [4519 + (n : Int) % 28] by rw [HR.out, div_div21, div_mod21]; unfold partsN; rw [if_neg hm]; rfl)
      clear hm
      go_enter Tryz.func131, Tryz.ntmps131
      go_wp2_with (first
        | (go_at_call 125; refine (amongOk (44032 + (n : Int)) 44032 11172 _ (by decide) (by decide) (by decide) (by decide)).mono ?_; rw [HB.out]; rintro e w1 ⟨rfl, rfl⟩)
        | (at_builtin; go_loud (refine wpList_app _ rfl _ _ 22 rfl .i64 w.heap.size 3 8 Tryz.underlying22 Tryz.infoI64 _ [4352 + (n : Int) / 28 / 21, 4449 + (n : Int) / 28 % 21] [4519 + (n : Int) % 28] rfl (Own.below (lit_own rfl (Nat.le_refl _) rfl rfl (by simp)) (by (repeat (first | exact Below.refl _ _ | exact below_drewN _ | refine Below.drew ?_ | refine Below.alloc ?_ (by simp) _ | refine Below.setCell ?_ (by simp) _ | refine below_drewN' ?_ _)))) _ rfl (one_sl (by first | simp | rfl)) (by unfold maxLen; first | omega | (simp; omega) | simp) (by first | omega | (simp; omega) | simp) (by first | omega | (simp; omega) | simp) ?_); intro v5 w5 ho5 hg5 hb5 hn5; clear hn5 hg5))
      go_ret
      exact ⟨_, rfl, by rw [HP.out]; exact ho5, Below.trans (show Below w.heap.size w _ from by (repeat (first | exact Below.refl _ _ | exact below_drewN _ | refine Below.drew ?_ | refine Below.alloc ?_ (by simp) _ | refine Below.setCell ?_ (by simp) _ | refine below_drewN' ?_ _))) hb5⟩
  · have HR := hid (splitS_out hin)
    have HB := hid (show amongB c 44032 11172 = false from decide_eq_false (by omega))
    clear hin
    go_enter Tryz.func131, Tryz.ntmps131
    go_wp2_with (go_at_call 125; refine (amongOk c 44032 11172 _ (by decide) (by decide) (by decide) (by decide)).mono ?_; rw [HB.out]; rintro e w1 ⟨rfl, rfl⟩)
    go_ret
    exact ⟨_, rfl, by rw [HR.out]; exact Own.nil _ _ _ _, Below.refl _ _⟩

theorem splitOk : SplitOk := fun c w hc => (splitO c w hc).mono fun e w' h => by
  obtain ⟨x, hx, ho, hb⟩ := h
  exact ⟨x, hx, ho.sl, hb⟩

set_option maxHeartbeats 2000000 in
theorem joinOk : JoinOk := by
  intro a b w ha hb
  obtain ⟨h0, h00⟩ := ha
  obtain ⟨h1, h11⟩ := hb
  obtain ⟨R, hR⟩ : ∃ R, R = joinS a b := ⟨_, rfl⟩
  rw [← hR]
  by_cases hA : 4352 ≤ a ∧ a ≤ 4370
  · obtain ⟨a0, a1⟩ := hA
    have H1 := hid (show amongB a 4352 19 = true from decide_eq_true ⟨a0, by omega⟩)
    by_cases hB : 4449 ≤ b ∧ b ≤ 4469
    · obtain ⟨b0, b1⟩ := hB
      have H2 := hid (show amongB b 4449 21 = true from decide_eq_true ⟨b0, by omega⟩)
      have HR := hid (show R = (44032 + ((a - 4352) * 21 + b - 4449) * 28, true) by rw [hR]; unfold joinS; rw [if_pos ⟨a0, a1, b0, b1⟩]; congr 1; omega)
      clear hR
      go_enter Tryz.func111, Tryz.ntmps111
      go_wp2_with (first
        | (go_at_call 125; with_reducible refine (amongOk a 4352 19 _ (by decide) (by decide) (by decide) (by decide)).mono ?_; rw [H1.out]; rintro e w1 ⟨rfl, rfl⟩)
        | (go_at_call 125; with_reducible refine (amongOk b 4449 21 _ (by decide) (by decide) (by decide) (by decide)).mono ?_; rw [H2.out]; rintro e w1 ⟨rfl, rfl⟩))
      go_ret2
      exact ⟨by rw [HR.out]; rfl, Below.refl _ _⟩
    · have H2 := hid (show amongB b 4449 21 = false from decide_eq_false (by omega))
      have H3 := hid (show openB a = false from decide_eq_false (by omega))
      have HR := hid (show R = (0, false) by rw [hR]; unfold joinS; rw [if_neg (by omega), if_neg (by omega)])
      clear hR hB
      go_enter Tryz.func111, Tryz.ntmps111
      go_wp2_with (first
        | (go_at_call 125; with_reducible refine (amongOk a 4352 19 _ (by decide) (by decide) (by decide) (by decide)).mono ?_; rw [H1.out]; rintro e w1 ⟨rfl, rfl⟩)
        | (go_at_call 125; with_reducible refine (amongOk b 4449 21 _ (by decide) (by decide) (by decide) (by decide)).mono ?_; rw [H2.out]; rintro e w1 ⟨rfl, rfl⟩)
        | (go_at_call 126; refine (isOpenOk a _).mono ?_; rw [H3.out]; rintro e w1 ⟨rfl, rfl⟩))
      go_ret2
      exact ⟨by rw [HR.out]; rfl, Below.refl _ _⟩
  · have H1 := hid (show amongB a 4352 19 = false from decide_eq_false (by omega))
    by_cases hC : 44032 ≤ a ∧ a ≤ 55203 ∧ (a - 44032) % 28 = 0
    · have H3 := hid (show openB a = true from decide_eq_true hC)
      by_cases hB : 4520 ≤ b ∧ b ≤ 4546
      · obtain ⟨b0, b1⟩ := hB
        obtain ⟨c0, c1, c2⟩ := hC
        have H4 := hid (show amongB b 4520 27 = true from decide_eq_true ⟨b0, by omega⟩)
        have HR := hid (show R = (a + b - 4519, true) by rw [hR]; unfold joinS; rw [if_neg (by omega), if_pos ⟨c0, c1, c2, b0, b1⟩])
        clear hR hA
        go_enter Tryz.func111, Tryz.ntmps111
        go_wp2_with (first
          | (go_at_call 125; with_reducible refine (amongOk a 4352 19 _ (by decide) (by decide) (by decide) (by decide)).mono ?_; rw [H1.out]; rintro e w1 ⟨rfl, rfl⟩)
          | (go_at_call 125; with_reducible refine (amongOk b 4520 27 _ (by decide) (by decide) (by decide) (by decide)).mono ?_; rw [H4.out]; rintro e w1 ⟨rfl, rfl⟩)
          | (go_at_call 126; refine (isOpenOk a _).mono ?_; rw [H3.out]; rintro e w1 ⟨rfl, rfl⟩))
        go_ret2
        exact ⟨by rw [HR.out]; rfl, Below.refl _ _⟩
      · have H4 := hid (show amongB b 4520 27 = false from decide_eq_false (by omega))
        have HR := hid (show R = (0, false) by rw [hR]; unfold joinS; rw [if_neg (by omega), if_neg (by omega)])
        clear hR hB hA hC
        go_enter Tryz.func111, Tryz.ntmps111
        go_wp2_with (first
          | (go_at_call 125; with_reducible refine (amongOk a 4352 19 _ (by decide) (by decide) (by decide) (by decide)).mono ?_; rw [H1.out]; rintro e w1 ⟨rfl, rfl⟩)
          | (go_at_call 125; with_reducible refine (amongOk b 4520 27 _ (by decide) (by decide) (by decide) (by decide)).mono ?_; rw [H4.out]; rintro e w1 ⟨rfl, rfl⟩)
          | (go_at_call 126; refine (isOpenOk a _).mono ?_; rw [H3.out]; rintro e w1 ⟨rfl, rfl⟩))
        go_ret2
        exact ⟨by rw [HR.out]; rfl, Below.refl _ _⟩
    · have H3 := hid (show openB a = false from decide_eq_false hC)
      have HR := hid (show R = (0, false) by rw [hR]; unfold joinS; rw [if_neg (by omega), if_neg (by omega)])
      clear hR hA hC
      go_enter Tryz.func111, Tryz.ntmps111
      go_wp2_with (first
        | (go_at_call 125; with_reducible refine (amongOk a 4352 19 _ (by decide) (by decide) (by decide) (by decide)).mono ?_; rw [H1.out]; rintro e w1 ⟨rfl, rfl⟩)
        | (go_at_call 126; refine (isOpenOk a _).mono ?_; rw [H3.out]; rintro e w1 ⟨rfl, rfl⟩))
      go_ret2
      exact ⟨by rw [HR.out]; rfl, Below.refl _ _⟩
end Go.Proofs.YtidjjaginindoaaGreat
