/- Several texts in one: Ref16a. -/
import Derived.Test.YtildhebaikeknaaGreatPk16
import Derived.Test.YtildhebaikeknaaGreatPk25
import Derived.Test.YtildhebaikeknaaGreatPk27
import Derived.Test.YtildhebaikeknaaGreatPk20
import Derived.BigQuiet
/-! Ref16a -/
namespace Go.Proofs.YtildhebaikeknaaGreat
open Go.RowKit

/-- the Sets behind a pointer -/
def SetsAt (S : Nat) (w : World) : Prop := ∃ v1 v2 v3 B, Box 40 [v1, v2, v3, .pointer (some ⟨B, 0, none⟩)] S w ∧ Sg w v1 tabCodes ∧ Sg w v2 tabAccents ∧ Sl .i64 w v3 tabSets ∧ TabsAt B w
theorem SetsAt.below {S : Nat} {w w' : World} (h : SetsAt S w) (hb : Below w.heap.size w w') : SetsAt S w' := by
  obtain ⟨v1, v2, v3, B, hx, h1, h2, h3, h4⟩ := h
  exact ⟨v1, v2, v3, B, hx.below hb hx.lt, h1.below hb, h2.below hb, h3.below hb, h4.below hb⟩

set_option maxHeartbeats 2000000 in
theorem refAllSets (w : World) : Calls Tryz.prog 4 #[] w fun e w' => ∃ S, e = .returned (.pointer (some ⟨S, 0, none⟩)) ∧ SetsAt S w' ∧ Below w.heap.size w w' := by
  go_enter Tryz.func4, Tryz.ntmps4
  go_wp2_with (first
    | (go_at_call 12; refine (apiCodes _).mono ?_; rintro e w1 ⟨v1, rfl, ho1, hb1⟩; have HO1 := hid ho1.sg; have HB1 := hid hb1; obtain ⟨a1, c1, hv1⟩ := ho1.form; obtain ⟨n1, hn1⟩ : ∃ n, n = tabCodes.length := ⟨_, rfl⟩; rw [← hn1] at hv1; subst hv1; clear ho1 hb1 hn1)
    | (go_at_call 13; refine (apiAccents _).mono ?_; rintro e w2 ⟨v2, rfl, ho2, hb2⟩; have HO2 := hid ho2.sg; have HB2 := hid hb2; obtain ⟨a2, c2, hv2⟩ := ho2.form; obtain ⟨n2, hn2⟩ : ∃ n, n = tabAccents.length := ⟨_, rfl⟩; rw [← hn2] at hv2; subst hv2; clear ho2 hb2 hn2)
    | (go_at_call 14; refine (apiSets _).mono ?_; rintro e w3 ⟨v3, rfl, ho3, hb3⟩; have HO3 := hid ho3.sl; have HB3 := hid hb3; obtain ⟨a3, c3, hv3⟩ := ho3.sl.form; obtain ⟨n3, hn3⟩ : ∃ n, n = tabSets.length := ⟨_, rfl⟩; rw [← hn3] at hv3; subst hv3; clear ho3 hb3 hn3)
    | (go_at_call 15; refine (refAll6 _).mono ?_; rintro e w4 ⟨B4, rfl, ht4, hb4⟩; have HT4 := hid ht4; have HB4 := hid hb4; clear ht4 hb4))
  go_ret
  have k6 : Below w4.heap.size w4 (w4.alloc (.cells #[.slice a1 n1 c1, .slice a2 n2 c2, .slice a3 n3 c3, .pointer (some ⟨B4, 0, none⟩)] 40)) := by (repeat (first | exact Below.refl _ _ | exact below_drewN _ | refine Below.drew ?_ | refine Below.alloc ?_ (by simp) _ | refine Below.setCell ?_ (by simp) _ | refine below_drewN' ?_ _))
  have k2 := HB1.out.trans (HB2.out.mono HB1.out.size)
  have k3 := k2.trans (HB3.out.mono k2.size)
  have k4 := k3.trans (HB4.out.mono k3.size)
  exact ⟨w4.heap.size, rfl, ⟨_, _, _, B4, Box.made w4 _ [_, _, _, _], (((HO1.out.below HB2.out).below HB3.out).below HB4.out).below k6, ((HO2.out.below HB3.out).below HB4.out).below k6, (HO3.out.below HB4.out).below k6, HT4.out.below k6⟩, k4.trans (k6.mono k4.size)⟩

theorem refWide16 (s : Int) (w : World) : Calls Tryz.prog 90 #[.int .i64 s] w fun e w' => e = .returned (.bool (s == 87)) ∧ w = w' := by
  go_enter Tryz.func90, Tryz.ntmps90
  go_wp2
  go_ret
  exact ⟨rfl, rfl⟩
theorem refLetter16 (c : Int) (w : World) : Calls Tryz.prog 88 #[.int .i64 c] w fun e w' => e = .returned (.bool (letB c)) ∧ w = w' := by
  have I65 := hid (fun w => refIn15 c 65 90 w)
  have I97 := hid (fun w => refIn15 c 97 122 w)
  have HV := hid (show letB c = (inR c 65 90 || inR c 97 122) by unfold letB inR; rw [Bool.eq_iff_iff]; simp)
  generalize inR c 65 90 = b at I65 HV
  generalize inR c 97 122 = d at I97 HV
  cases b with
  | true =>
    go_enter Tryz.func88, Tryz.ntmps88
    go_wp2_with (first
      | (go_at_call 76; with_reducible refine (I65.out _).mono ?_; rintro e w1 ⟨rfl, rfl⟩)
      | (go_at_call 76; with_reducible refine (I97.out _).mono ?_; rintro e w1 ⟨rfl, rfl⟩))
    go_ret
    exact ⟨by rw [HV.out]; rfl, rfl⟩
  | false =>
    go_enter Tryz.func88, Tryz.ntmps88
    go_wp2_with (first
      | (go_at_call 76; with_reducible refine (I65.out _).mono ?_; rintro e w1 ⟨rfl, rfl⟩)
      | (go_at_call 76; with_reducible refine (I97.out _).mono ?_; rintro e w1 ⟨rfl, rfl⟩))
    go_ret
    exact ⟨by rw [HV.out]; rfl, rfl⟩

set_option maxHeartbeats 4000000 in
theorem refFind16 (S : Nat) (set : Int) (c : Int) (w : World) (h : SetsAt S w) : Calls Tryz.prog 72 #[.pointer (some ⟨S, 0, none⟩), .int .i64 set, .int .i64 c] w fun e w' => e = .returned (.tuple #[.int .i64 (findS16 set c).1, .bool (findS16 set c).2]) ∧ w = w' := by
  obtain ⟨R, hR⟩ : ∃ R, R = findS16 set c := ⟨_, rfl⟩
  have hH : ∀ k, k < (tabCodes).length → (∀ i, i < k → (fun r : Rg => r.f == set && r.v == c) ((tabCodes).getD i noRg) = false) → (fun r : Rg => r.f == set && r.v == c) ((tabCodes).getD k noRg) = true → R = (((tabCodes).getD k noRg).t, true) := fun k hk ha hh => by rw [hR]; unfold findS16; rw [fndS_hit (p := (fun r : Rg => r.f == set && r.v == c)) hk ha hh]
  have hN : (∀ i, i < (tabCodes).length → (fun r : Rg => r.f == set && r.v == c) ((tabCodes).getD i noRg) = false) → R = (0, false) := fun ha => by rw [hR]; unfold findS16; rw [fndS_none (p := (fun r : Rg => r.f == set && r.v == c)) ha]; rfl
  rw [← hR]
  obtain ⟨v1, v2, v3, B, hx, h1, h2, h3, h4⟩ := h
  have HX := hid hx
  have ml := h1.len
  obtain ⟨a1, cap1, rfl, q1, -, h1⟩ := h1
  obtain ⟨l, hl⟩ : ∃ l, l = tabCodes := ⟨_, rfl⟩
  rw [← hl] at hH hN h1 ml q1 HX
  obtain ⟨n, hn⟩ : ∃ n, n = l.length := ⟨_, rfl⟩
  rw [← hn] at hH hN ml q1 HX h1
  have HH := hid hH
  have HN := hid hN
  have H1 := hid h1
  have x0 := HX.out.cell 0
  simp only [List.getElem?_cons_zero] at x0
  clear hR hH hN hx h1 h2 h3 h4 hn hl
  go_enter Tryz.func72, Tryz.ntmps72
  go_wp2
  go_loopw [8] (fun iv wr => ∃ k : Nat, k ≤ n ∧ iv = .int .i64 k ∧ w = wr ∧ Hid (∀ i, i < k → (fun r : Rg => r.f == set && r.v == c) (l.getD i noRg) = false)) (fun iv _ => n - (intOf iv).toNat)
  case atStart => exact ⟨0, by omega, rfl, rfl, fun i hi => absurd hi (by omega)⟩
  case round =>
    obtain ⟨k, hk, rfl, rfl, hall⟩ := hrel
    by_cases hlt : k < n
    · rcases H1.out with hc | ⟨b1, o1, rfl, hb1, c1⟩
      · omega
      obtain ⟨d1, d2, d3⟩ := c1 k hlt
      have hh := hid (HH.out k hlt hall.out)
      have HNX := hid (show (fun r : Rg => r.f == set && r.v == c) (l.getD k noRg) = false → ∀ i, i < k + 1 → (fun r : Rg => r.f == set && r.v == c) (l.getD i noRg) = false from fun he i hi => by
        rcases Nat.lt_or_ge i k with h | h
        · exact hall.out i h
        · obtain rfl : i = k := by omega
          exact he)
      clear c1 hb1
      generalize l.getD k noRg = r at d1 d2 d3 hh HNX
      obtain ⟨rf, rt, rv⟩ := r
      simp only at d1 d2 d3 hh HNX
      obtain ⟨b, hb⟩ : ∃ b, b = (rf == set) := ⟨_, rfl⟩
      rw [← hb] at hh HNX
      replace hb := hb.symm
      cases b with
      | true =>
        obtain ⟨b2, hb2⟩ : ∃ b2, b2 = (rv == c) := ⟨_, rfl⟩
        rw [← hb2] at hh HNX
        replace hb2 := hb2.symm
        cases b2 with
        | true =>
          have hr := hid (hh.out rfl)
          clear hh HNX
          go_wp2
          go_ret2
          exact ⟨by rw [hr.out]; rfl, rfl⟩
        | false =>
          have hr := hid (HNX.out rfl)
          clear hh HNX
          go_wp2
          go_roundw
          case rel => exact ⟨k + 1, by omega, by go_num, by trivial, hr.out⟩
          case measure => simp [intOf]; omega
      | false =>
        have hr := hid (HNX.out rfl)
        clear hh HNX
        go_wp2
        go_roundw
        case rel => exact ⟨k + 1, by omega, by go_num, by trivial, hr.out⟩
        case measure => simp [intOf]; omega
    · obtain rfl : k = n := by omega
      have hr := hid (HN.out hall.out)
      go_wp2
      go_ret2
      exact ⟨by rw [hr.out]; rfl, rfl⟩

end Go.Proofs.YtildhebaikeknaaGreat
