/- Several texts in one: Ucd3, Ref7, Ucd5, Ucd6. -/
import Derived.Test.YtimbchkoomjhkaaPk3
import Derived.Test.YtimbchkoomjhkaaPk4
import Derived.Test.YtimbchkoomjhkaaPk2
/-! Ucd3 -/
namespace Go.Proofs.Ytimbchkoomjhkaa
open Go.RowKit

/-- the first entry with a scalar, and whether there is one -/
def fndM (c : Int) : List Mp → Mp × Bool
  | [] => (noMp, false)
  | r :: l => if r.f == c then (r, true) else fndM c l
theorem fndM_drop {c : Int} : ∀ {l : List Mp} {k : Nat}, k ≤ l.length → (∀ i, i < k → ((l.getD i noMp).f == c) = false) → fndM c l = fndM c (l.drop k)
  | _, 0, _, _ => rfl
  | [], k + 1, h, _ => by simp at h
  | r :: l, k + 1, h, ha => by
    have h0 := ha 0 (by omega)
    simp only [List.getD_cons_zero] at h0
    rw [fndM, h0, List.drop_succ_cons]
    exact fndM_drop (by simpa using h) fun i hi => by simpa using ha (i + 1) (by omega)
theorem fndM_hit {c : Int} {l : List Mp} {k : Nat} (h : k < l.length) (ha : ∀ i, i < k → ((l.getD i noMp).f == c) = false) (hk : ((l.getD k noMp).f == c) = true) : fndM c l = (l.getD k noMp, true) := by
  rw [fndM_drop (by omega) ha, List.drop_eq_getElem_cons h, fndM]
  have e : l.getD k noMp = l[k] := by rw [List.getD_eq_getElem?_getD, List.getElem?_eq_getElem h]; rfl
  rw [e] at hk ⊢
  rw [hk]
  rfl
theorem fndM_none {c : Int} {l : List Mp} (ha : ∀ i, i < l.length → ((l.getD i noMp).f == c) = false) : fndM c l = (noMp, false) := by
  rw [fndM_drop (Nat.le_refl _) ha, List.drop_length]
  rfl

theorem sl_nil (k : IntKind) (w : World) : Sl k w (.slice none 0 0) [] := ⟨none, 0, rfl, Nat.le_refl _, by unfold maxLen; omega, .inl rfl⟩
theorem Box.pair {t : TypeId} {a b : Value} {B : Nat} {w : World} (h : Box t [a, b] B w) (x y : Value) : Box t [x, y] B ((w.setCell ⟨B, 0, none⟩ x).setCell ⟨B, 1, none⟩ y) :=
  (h.set 0 x).set 1 y
theorem below_pair {base B : Nat} {a b : Value} {w0 w : World} (h : Below base w0 w) (hB : base ≤ B) : Below base w0 ((w.setCell ⟨B, 0, none⟩ a).setCell ⟨B, 1, none⟩ b) :=
  (h.setCell hB _).setCell hB _
theorem ucdFrom (a : Int) (u : Value) (w : World) : Calls Try.prog 109 #[.agg #[.int .i64 a, u]] w fun e w' => e = .returned (.int .i64 a) ∧ Below w.heap.size w w' := by
  go_enter Try.func109, Try.ntmps109
  go_wp2_with (fail)
  go_ret
  exact ⟨rfl, by (repeat (first | exact Below.refl _ _ | exact below_drewN _ | refine Below.drew ?_ | refine Below.alloc ?_ (by simp) _ | refine Below.setCell ?_ (by simp) _ | refine below_drewN' ?_ _))⟩

set_option maxHeartbeats 2000000 in
theorem ucdFindM (v : Value) (l : List Mp) (c : Int) (w : World) (h : Sm w v l) :
    Calls Try.prog 108 #[.agg #[v, .func (.func 109) #[] #[]], .int .i64 c] w fun e w' =>
      ∃ x, e = .returned (.tuple #[.agg #[.int .i64 (fndM c l).1.f, x], .bool (fndM c l).2]) ∧ Sl .i64 w' x (fndM c l).1.t ∧ Below w.heap.size w w' := by
  have ml := h.len
  obtain ⟨a1, cap1, rfl, q1, -, h1⟩ := h
  obtain ⟨n, hn⟩ : ∃ n, n = l.length := ⟨_, rfl⟩
  obtain ⟨R, hR⟩ : ∃ R, R = fndM c l := ⟨_, rfl⟩
  have hH : ∀ k, k < n → (∀ i, i < k → ((l.getD i noMp).f == c) = false) → ((l.getD k noMp).f == c) = true → R = (l.getD k noMp, true) := fun k hk ha hh => hR.trans (fndM_hit (by omega) ha hh)
  have hN : (∀ i, i < n → ((l.getD i noMp).f == c) = false) → R = (noMp, false) := fun ha => hR.trans (fndM_none (by rw [← hn]; exact ha))
  rw [← hR]
  have HH := hid hH
  have HN := hid hN
  have H1 := hid h1
  rw [← hn] at ml q1 H1 ⊢
  clear hH hN h1 hn hR
  go_enter Try.func108, Try.ntmps108
  go_wp2_with (fail)
  go_loopw [12] (fun iv wr => ∃ k : Nat, k ≤ n ∧ iv = .int .i64 k ∧ Hid (Box 124 [.slice a1 n cap1, .func (.func 109) #[] #[]] w.heap.size wr) ∧ Hid (Box 75 [.int .i64 0, .slice none 0 0] (w.heap.size + 1) wr) ∧ Hid (Below w.heap.size w wr) ∧ Hid (∀ i, i < k → ((l.getD i noMp).f == c) = false)) (fun iv _ => n - (intOf iv).toNat)
  case atStart => exact ⟨0, by omega, rfl, (Box.made w 124 _).alloc _, box_last _ _ _ _, by (repeat (first | exact Below.refl _ _ | exact below_drewN _ | refine Below.drew ?_ | refine Below.alloc ?_ (by simp) _ | refine Below.setCell ?_ (by simp) _ | refine below_drewN' ?_ _)), fun i hi => absurd hi (by omega)⟩
  case round =>
    obtain ⟨k, hk, rfl, hbt, hbr, hbel, hall⟩ := hrel
    have hsz := hbr.out.lt
    by_cases hlt : k < n
    · rcases H1.out with hc | ⟨b1, o1, rfl, hb1, c1⟩
      · omega
      have hb1' := hb1 (by omega)
      obtain ⟨d1, ux, d2, d3⟩ := c1 k hlt
      have d1 := (hbel.out.cell (p := ⟨b1, o1 + k * 2, none⟩) hb1').trans d1
      have d2 := (hbel.out.cell (p := ⟨b1, o1 + k * 2 + 1, none⟩) hb1').trans d2
      have HD := hid d3
      clear d3
      have hh := hid (HH.out k hlt hall.out)
      have HNX := hid (show ((l.getD k noMp).f == c) = false → ∀ i, i < k + 1 → ((l.getD i noMp).f == c) = false from fun he i hi => by
        rcases Nat.lt_or_ge i k with h | h
        · exact hall.out i h
        · obtain rfl : i = k := by omega
          exact he)
      clear c1
      generalize l.getD k noMp = r at d1 d2 HD hh HNX
      obtain ⟨rf, rt⟩ := r
      simp only at d1 d2 HD hh HNX
      obtain ⟨au, cu, hux⟩ := HD.out.form
      obtain ⟨nr, hnr⟩ : ∃ nr, nr = rt.length := ⟨_, rfl⟩
      rw [← hnr] at hux
      subst hux
      clear hnr
      obtain ⟨b, hb⟩ : ∃ b, b = (rf == c) := ⟨_, rfl⟩
      rw [← hb] at hh HNX
      replace hb := hb.symm
      have HBW := hid (show Below wr.heap.size wr (wr.alloc (.cells #[.int .i64 rf, (.slice au nr cu)] 75)) by (repeat (first | exact Below.refl _ _ | exact below_drewN _ | refine Below.drew ?_ | refine Below.alloc ?_ (by simp) _ | refine Below.setCell ?_ (by simp) _ | refine below_drewN' ?_ _)))
      have HNW := hid (Box.made wr 75 [.int .i64 rf, (.slice au nr cu)])
      have HRA := hid (hbr.out.alloc (.cells #[.int .i64 rf, (.slice au nr cu)] 75))
      have HTA := hid (hbt.out.alloc (.cells #[.int .i64 rf, (.slice au nr cu)] 75))
      have x1 := HTA.out.cell 1
      simp only [List.getElem?_cons_zero, List.getElem?_cons_succ] at x1
      cases b with
      | true =>
        have hr := hid (hh.out rfl)
        go_wp2_with (go_at_call 109; refine (ucdFrom rf (.slice au nr cu) _).mono ?_; rintro e wu ⟨rfl, hbu⟩; have HBU := hid (hbel.out.trans ((HBW.out.trans (hbu.mono HBW.out.size)).mono hbel.out.size)); have HRU := hid (HRA.out.below hbu HRA.out.lt); have HNU := hid (HNW.out.below hbu HNW.out.lt); clear hbu; have y2 := HNU.out.cell 0; have y3 := HNU.out.cell 1; have z0 := HRU.out.ice 0; have z1 := HRU.out.ice 1; have w0 := HRU.out.cell 0; have w1 := HRU.out.cell 1; simp only [List.getElem?_cons_zero, List.getElem?_cons_succ] at w0 w1 y2 y3)
        refine bodyPost_ret (results_two rfl rfl (loadMp (HRU.out.pair _ _))) rfl ⟨.slice au nr cu, by rw [hr.out]; rfl, by rw [hr.out]; exact HD.out.below (below_pair HBU.out (by omega)), below_pair HBU.out (by omega)⟩
      | false =>
        have hr := hid (HNX.out rfl)
        go_wp2_with (go_at_call 109; refine (ucdFrom rf (.slice au nr cu) _).mono ?_; rintro e wu ⟨rfl, hbu⟩; have HBU := hid (hbel.out.trans ((HBW.out.trans (hbu.mono HBW.out.size)).mono hbel.out.size)); have HRU := hid (HRA.out.below hbu HRA.out.lt); have HTU := hid (HTA.out.below hbu HTA.out.lt); clear hbu)
        go_roundw
        case rel => exact ⟨k + 1, by omega, by go_num, HTU.out, HRU.out, HBU.out, hr.out⟩
        case measure => simp [intOf]; omega
    · obtain rfl : k = n := by omega
      have hr := hid (HN.out hall.out)
      have z0 := hbr.out.ice 0
      have z1 := hbr.out.ice 1
      have w0 := hbr.out.cell 0
      have w1 := hbr.out.cell 1
      simp only [List.getElem?_cons_zero, List.getElem?_cons_succ] at w0 w1
      have HB3 := hid (below_pair (B := w.heap.size + 1) (a := .int .i64 0) (b := .slice none 0 0) hbel.out (by omega))
      have HR3 := hid (hbr.out.pair (.int .i64 0) (.slice none 0 0))
      go_wp2_with (fail)
      refine bodyPost_ret (results_two rfl rfl (loadMp (HR3.out.alloc _))) rfl ⟨_, by rw [hr.out]; rfl, by rw [hr.out]; exact sl_nil _ _, HB3.out.alloc HB3.out.size _⟩
end Go.Proofs.Ytimbchkoomjhkaa

/-! Ref7 -/
namespace Go.Proofs.Ytimbchkoomjhkaa
open Go.RowKit

set_option maxHeartbeats 2000000 in
theorem refSplit7 (c : Int) (w : World) (h0 : -9223372036854775808 ≤ c) (h1 : c ≤ 9223372036854775807) : Calls Try.prog 68 #[.int .i64 c] w fun e w' => ∃ x, e = .returned x ∧ Sl .i64 w' x (splitS c) ∧ Below w.heap.size w w' := by
  by_cases hin : 44032 ≤ c ∧ c ≤ 55203
  · obtain ⟨n, rfl⟩ : ∃ n : Nat, c = 44032 + (n : Int) := ⟨(c - 44032).toNat, by omega⟩
    have hn : n ≤ 11171 := by omega
    have HR := hid (splitS_in hn)
    have e1 : (44032 + (n : Int)) - 44032 = (n : Int) := by omega
    have HB := hid (show inB (n : Int) 0 11171 = true from decide_eq_true ⟨by omega, by omega⟩)
    clear hin
    by_cases hm : n % 28 = 0
    · have hm2 : ¬ (0 : Int) < (n : Int) % 28 := by omega
      have HP := hid (show splitS (44032 + (n : Int)) = [4352 + (n : Int) / 588, 4449 + (n : Int) % 588 / 28] by rw [HR.out]; unfold partsN; rw [if_pos hm])
      clear hm
      go_enter Try.func68, Try.ntmps68
      go_wp2_with (go_at_call 42; refine (refIn6 (n : Int) 0 11171 _).mono ?_; rw [HB.out]; rintro e w1 ⟨rfl, rfl⟩)
      go_ret
      exact ⟨_, rfl, by rw [HP.out]; exact lit_sl rfl rfl rfl (by simp), by (repeat (first | exact Below.refl _ _ | exact below_drewN _ | refine Below.drew ?_ | refine Below.alloc ?_ (by simp) _ | refine Below.setCell ?_ (by simp) _ | refine below_drewN' ?_ _))⟩
    · have hm2 : (0 : Int) < (n : Int) % 28 := by omega
      have HP := hid (show splitS (44032 + (n : Int)) = [4352 + (n : Int) / 588, 4449 + (n : Int) % 588 / 28] ++ [4519 + (n : Int) % 28] by rw [HR.out]; unfold partsN; rw [if_neg hm]; rfl)
      clear hm
      go_enter Try.func68, Try.ntmps68
      go_wp2_with (first
        | (go_at_call 42; refine (refIn6 (n : Int) 0 11171 _).mono ?_; rw [HB.out]; rintro e w1 ⟨rfl, rfl⟩)
        | (at_builtin; go_loud (refine wpList_app _ rfl _ _ 22 rfl .i64 w.heap.size 3 8 Try.underlying22 Try.infoI64 _ [4352 + (n : Int) / 588, 4449 + (n : Int) % 588 / 28] [4519 + (n : Int) % 28] rfl (Own.below (lit_own rfl (Nat.le_refl _) rfl rfl (by simp)) (by (repeat (first | exact Below.refl _ _ | exact below_drewN _ | refine Below.drew ?_ | refine Below.alloc ?_ (by simp) _ | refine Below.setCell ?_ (by simp) _ | refine below_drewN' ?_ _)))) _ rfl (one_sl (by first | simp | rfl)) (by unfold maxLen; first | omega | (simp; omega) | simp) (by first | omega | (simp; omega) | simp) (by first | omega | (simp; omega) | simp) ?_); intro v5 w5 ho5 hg5 hb5 hn5; clear hn5 hg5))
      go_ret
      exact ⟨_, rfl, by rw [HP.out]; exact ho5.sl, Below.trans (show Below w.heap.size w _ from by (repeat (first | exact Below.refl _ _ | exact below_drewN _ | refine Below.drew ?_ | refine Below.alloc ?_ (by simp) _ | refine Below.setCell ?_ (by simp) _ | refine below_drewN' ?_ _))) hb5⟩
  · have HR := hid (splitS_out hin)
    have HB := hid (show inB (wrap64 (c - 44032)) 0 11171 = false from decide_eq_false (by unfold wrap64; omega))
    clear hin
    go_enter Try.func68, Try.ntmps68
    go_wp2_with (go_at_call 42; refine (refIn6 (wrap64 (c - 44032)) 0 11171 _).mono ?_; rw [HB.out]; rintro e w1 ⟨rfl, rfl⟩)
    go_ret
    exact ⟨_, rfl, by rw [HR.out]; exact sl_nil _ _, Below.refl _ _⟩

set_option maxHeartbeats 2000000 in
theorem refJoin7 (a b : Int) (w : World) (h0 : -9223372036854775808 ≤ a ∧ a ≤ 9223372036854775807) (h1 : -9223372036854775808 ≤ b ∧ b ≤ 9223372036854775807) : Calls Try.prog 75 #[.int .i64 a, .int .i64 b] w fun e w' => e = .returned (.tuple #[.int .i64 (joinS a b).1, .bool (joinS a b).2]) ∧ w = w' := by
  obtain ⟨R, hR⟩ : ∃ R, R = joinS a b := ⟨_, rfl⟩
  rw [← hR]
  by_cases hA : 4352 ≤ a ∧ a ≤ 4370
  · obtain ⟨a0, a1⟩ := hA
    have H1 := hid (show inB a 4352 4370 = true from decide_eq_true ⟨a0, a1⟩)
    by_cases hB : 4449 ≤ b ∧ b ≤ 4469
    · obtain ⟨b0, b1⟩ := hB
      have H2 := hid (show inB b 4449 4469 = true from decide_eq_true ⟨b0, b1⟩)
      have HR := hid (show R = (44032 + ((a - 4352) * 21 + b - 4449) * 28, true) by rw [hR]; unfold joinS; rw [if_pos ⟨a0, a1, b0, b1⟩]; congr 1; omega)
      clear hR
      go_enter Try.func75, Try.ntmps75
      go_wp2_with (first
        | (go_at_call 42; with_reducible refine (refIn6 a 4352 4370 _).mono ?_; rw [H1.out]; rintro e w1 ⟨rfl, rfl⟩)
        | (go_at_call 42; with_reducible refine (refIn6 b 4449 4469 _).mono ?_; rw [H2.out]; rintro e w1 ⟨rfl, rfl⟩))
      go_ret2
      exact ⟨by rw [HR.out]; rfl, rfl⟩
    · have H2 := hid (show inB b 4449 4469 = false from decide_eq_false hB)
      have H3 := hid (show inB a 44032 55203 = false from decide_eq_false (by omega))
      have HR := hid (show R = (0, false) by rw [hR]; unfold joinS; rw [if_neg (by omega), if_neg (by omega)])
      clear hR hB
      go_enter Try.func75, Try.ntmps75
      go_wp2_with (first
        | (go_at_call 42; with_reducible refine (refIn6 a 4352 4370 _).mono ?_; rw [H1.out]; rintro e w1 ⟨rfl, rfl⟩)
        | (go_at_call 42; with_reducible refine (refIn6 b 4449 4469 _).mono ?_; rw [H2.out]; rintro e w1 ⟨rfl, rfl⟩)
        | (go_at_call 42; with_reducible refine (refIn6 a 44032 55203 _).mono ?_; rw [H3.out]; rintro e w1 ⟨rfl, rfl⟩))
      go_ret2
      exact ⟨by rw [HR.out]; rfl, rfl⟩
  · have H1 := hid (show inB a 4352 4370 = false from decide_eq_false hA)
    by_cases hC : 44032 ≤ a ∧ a ≤ 55203
    · have H3 := hid (show inB a 44032 55203 = true from decide_eq_true hC)
      obtain ⟨n, rfl⟩ : ∃ n : Nat, a = 44032 + (n : Int) := ⟨(a - 44032).toNat, by omega⟩
      have hn : n ≤ 11171 := by omega
      have e1 : (44032 + (n : Int)) - 44032 = (n : Int) := by omega
      obtain ⟨z, hz⟩ : ∃ z, z = ((n : Int) % 28 == 0) := ⟨_, rfl⟩
      have HZ := hid hz
      replace hz := hz.symm
      clear hA hC
      cases z with
      | false =>
        have HR := hid (show R = (0, false) by rw [hR]; unfold joinS; rw [if_neg (by omega), if_neg (by have h := HZ.out.symm; rw [beq_eq_false_iff_ne] at h; omega)])
        clear hR
        go_enter Try.func75, Try.ntmps75
        go_wp2_with (first
          | (go_at_call 42; with_reducible refine (refIn6 (44032 + (n : Int)) 4352 4370 _).mono ?_; rw [H1.out]; rintro e w1 ⟨rfl, rfl⟩)
          | (go_at_call 42; with_reducible refine (refIn6 (44032 + (n : Int)) 44032 55203 _).mono ?_; rw [H3.out]; rintro e w1 ⟨rfl, rfl⟩))
        go_ret2
        exact ⟨by rw [HR.out]; rfl, rfl⟩
      | true =>
        by_cases hB : 4520 ≤ b ∧ b ≤ 4546
        · obtain ⟨b0, b1⟩ := hB
          have H4 := hid (show inB b 4520 4546 = true from decide_eq_true ⟨b0, b1⟩)
          have HR := hid (show R = (44032 + (n : Int) + b - 4519, true) by rw [hR]; unfold joinS; rw [if_neg (by omega), if_pos (by have h := eq_of_beq HZ.out.symm; omega)])
          clear hR
          go_enter Try.func75, Try.ntmps75
          go_wp2_with (first
            | (go_at_call 42; with_reducible refine (refIn6 (44032 + (n : Int)) 4352 4370 _).mono ?_; rw [H1.out]; rintro e w1 ⟨rfl, rfl⟩)
            | (go_at_call 42; with_reducible refine (refIn6 (44032 + (n : Int)) 44032 55203 _).mono ?_; rw [H3.out]; rintro e w1 ⟨rfl, rfl⟩)
            | (go_at_call 42; with_reducible refine (refIn6 b 4520 4546 _).mono ?_; rw [H4.out]; rintro e w1 ⟨rfl, rfl⟩))
          go_ret2
          exact ⟨by rw [HR.out]; rfl, rfl⟩
        · have H4 := hid (show inB b 4520 4546 = false from decide_eq_false hB)
          have HR := hid (show R = (0, false) by rw [hR]; unfold joinS; rw [if_neg (by omega), if_neg (by omega)])
          clear hR hB
          go_enter Try.func75, Try.ntmps75
          go_wp2_with (first
            | (go_at_call 42; with_reducible refine (refIn6 (44032 + (n : Int)) 4352 4370 _).mono ?_; rw [H1.out]; rintro e w1 ⟨rfl, rfl⟩)
            | (go_at_call 42; with_reducible refine (refIn6 (44032 + (n : Int)) 44032 55203 _).mono ?_; rw [H3.out]; rintro e w1 ⟨rfl, rfl⟩)
            | (go_at_call 42; with_reducible refine (refIn6 b 4520 4546 _).mono ?_; rw [H4.out]; rintro e w1 ⟨rfl, rfl⟩))
          go_ret2
          exact ⟨by rw [HR.out]; rfl, rfl⟩
    · have H3 := hid (show inB a 44032 55203 = false from decide_eq_false hC)
      have HR := hid (show R = (0, false) by rw [hR]; exact join_none hA hC)
      clear hR hA hC
      go_enter Try.func75, Try.ntmps75
      go_wp2_with (first
        | (go_at_call 42; with_reducible refine (refIn6 a 4352 4370 _).mono ?_; rw [H1.out]; rintro e w1 ⟨rfl, rfl⟩)
        | (go_at_call 42; with_reducible refine (refIn6 a 44032 55203 _).mono ?_; rw [H3.out]; rintro e w1 ⟨rfl, rfl⟩))
      go_ret2
      exact ⟨by rw [HR.out]; rfl, rfl⟩
end Go.Proofs.Ytimbchkoomjhkaa

/-! Ucd5 -/
namespace Go.Proofs.Ytimbchkoomjhkaa
open Go.RowKit

/-- the first place of a number, or -1 -/
def idxL (c : Int) : List Int → Int → Int
  | [], _ => -1
  | x :: l, k => if x == c then k else idxL c l (k + 1)
def inL (c : Int) (l : List Int) : Bool := decide (0 ≤ idxL c l 0)
theorem idxL_drop {c : Int} : ∀ {l : List Int} {k : Nat} {o : Int}, k ≤ l.length → (∀ i, i < k → (l.getD i 0 == c) = false) → idxL c l o = idxL c (l.drop k) (o + (k : Int))
  | _, 0, o, _, _ => by simp
  | [], k + 1, _, h, _ => by simp at h
  | r :: l, k + 1, o, h, ha => by
    have h0 := ha 0 (by omega)
    simp only [List.getD_cons_zero] at h0
    rw [idxL, h0, List.drop_succ_cons, show o + ((k + 1 : Nat) : Int) = o + 1 + (k : Int) by omega]
    exact idxL_drop (by simpa using h) fun i hi => by simpa using ha (i + 1) (by omega)
theorem idxL_hit {c : Int} {l : List Int} {k : Nat} (h : k < l.length) (ha : ∀ i, i < k → (l.getD i 0 == c) = false) (hk : (l.getD k 0 == c) = true) : idxL c l 0 = (k : Int) := by
  rw [idxL_drop (by omega) ha, List.drop_eq_getElem_cons h, idxL]
  have e : l.getD k 0 = l[k] := by rw [List.getD_eq_getElem?_getD, List.getElem?_eq_getElem h]; rfl
  rw [e] at hk
  rw [hk]
  simp
theorem idxL_none {c : Int} {l : List Int} (ha : ∀ i, i < l.length → (l.getD i 0 == c) = false) : idxL c l 0 = -1 := by
  rw [idxL_drop (Nat.le_refl _) ha, List.drop_length]
  rfl

set_option maxHeartbeats 1000000 in
theorem slicesIndex (v : Value) (l : List Int) (c : Int) (w : World) (h : Sl .i64 w v l) :
    Calls Try.prog 98 #[v, .int .i64 c] w fun e w' => e = .returned (.int .i64 (idxL c l 0)) ∧ w = w' := by
  have ml := h.len
  obtain ⟨a1, cap1, rfl, q1, -, h1⟩ := h
  obtain ⟨n, hn⟩ : ∃ n, n = l.length := ⟨_, rfl⟩
  obtain ⟨R, hR⟩ : ∃ R, R = idxL c l 0 := ⟨_, rfl⟩
  have hH : ∀ k, k < n → (∀ i, i < k → (l.getD i 0 == c) = false) → (l.getD k 0 == c) = true → R = (k : Int) := fun k hk ha hh => hR.trans (idxL_hit (by omega) ha hh)
  have hN : (∀ i, i < n → (l.getD i 0 == c) = false) → R = -1 := fun ha => hR.trans (idxL_none (by rw [← hn]; exact ha))
  rw [← hR]
  have HH := hid hH
  have HN := hid hN
  have H1 := hid h1
  rw [← hn] at ml q1 H1 ⊢
  clear hH hN h1 hn hR
  go_enter Try.func98, Try.ntmps98
  go_wp2_with (fail)
  go_loopw [8] (fun iv wr => ∃ k : Nat, k ≤ n ∧ iv = .int .i64 k ∧ wr = w ∧ Hid (∀ i, i < k → (l.getD i 0 == c) = false)) (fun iv _ => n - (intOf iv).toNat)
  case atStart => exact ⟨0, by omega, rfl, rfl, fun i hi => absurd hi (by omega)⟩
  case round =>
    obtain ⟨k, hk, rfl, rfl, hall⟩ := hrel
    by_cases hlt : k < n
    · rcases H1.out with hc | ⟨b1, o1, rfl, hb1, c1⟩
      · omega
      have d1 := c1 k hlt
      have hh := hid (HH.out k hlt hall.out)
      have HNX := hid (show (l.getD k 0 == c) = false → ∀ i, i < k + 1 → (l.getD i 0 == c) = false from fun he i hi => by
        rcases Nat.lt_or_ge i k with h | h
        · exact hall.out i h
        · obtain rfl : i = k := by omega
          exact he)
      clear c1
      generalize l.getD k 0 = y at d1 hh HNX
      obtain ⟨b, hb⟩ : ∃ b, b = (c == y) := ⟨_, rfl⟩
      rw [BEq.comm (a := y) (b := c), ← hb] at hh HNX
      replace hb := hb.symm
      cases b with
      | true =>
        have hr := hid (hh.out rfl)
        go_wp2_with (fail)
        go_ret
        exact ⟨by rw [hr.out]; rfl, rfl⟩
      | false =>
        have hr := hid (HNX.out rfl)
        go_wp2_with (fail)
        go_roundw
        case rel => exact ⟨k + 1, by omega, by go_num, by first | trivial | rfl, hr.out⟩
        case measure => simp [intOf]; omega
    · obtain rfl : k = n := by omega
      have hr := hid (HN.out hall.out)
      go_wp2_with (fail)
      go_ret
      exact ⟨by rw [hr.out]; rfl, rfl⟩

theorem slicesContains (v : Value) (l : List Int) (c : Int) (w : World) (h : Sl .i64 w v l) :
    Calls Try.prog 89 #[v, .int .i64 c] w fun e w' => e = .returned (.bool (inL c l)) ∧ w = w' := by
  have H := hid h
  obtain ⟨y, hy⟩ : ∃ y, y = idxL c l 0 := ⟨_, rfl⟩
  obtain ⟨b, hb⟩ : ∃ b, b = decide (0 ≤ y) := ⟨_, rfl⟩
  have HB := hid (show b = inL c l by rw [hb, hy]; rfl)
  have HY := hid hy
  replace hb := hb.symm
  clear h hy
  go_enter Try.func89, Try.ntmps89
  go_wp2_with (go_at_call 98; refine (slicesIndex v l c _ H.out).mono ?_; rw [← HY.out]; rintro e w1 ⟨rfl, rfl⟩)
  go_ret
  exact ⟨by rw [← HB.out, ← hb]; rfl, rfl⟩
end Go.Proofs.Ytimbchkoomjhkaa

/-! Ucd6 -/
namespace Go.Proofs.Ytimbchkoomjhkaa
open Go.RowKit

def delS (excl : List Int) (cls : List Rg) (r : Rg) : Bool := r.v == 0 || inL r.f excl || lookS cls r.f != 0 || lookS cls r.t != 0
set_option maxHeartbeats 2000000 in
theorem ucdDel (B1 B2 : Nat) (ve vc : Value) (excl : List Int) (cls : List Rg) (a b c : Int) (w : World) (h1 : w.cell? ⟨B1, 0, none⟩ = some ve) (he : Sl .i64 w ve excl) (h2 : w.cell? ⟨B2, 0, none⟩ = some vc) (hc : Sg w vc cls) :
    Calls Try.prog 88 #[.agg #[.int .i64 a, .int .i64 b, .int .i64 c], .pointer (some ⟨B1, 0, none⟩), .pointer (some ⟨B2, 0, none⟩)] w fun e w' => e = .returned (.bool (delS excl cls ⟨a, b, c⟩)) ∧ Below w.heap.size w w' := by
  have hb0 : Below w.heap.size w (w.alloc (.cells #[.int .i64 a, .int .i64 b, .int .i64 c] 55)) := by (repeat (first | exact Below.refl _ _ | exact below_drewN _ | refine Below.drew ?_ | refine Below.alloc ?_ (by simp) _ | refine Below.setCell ?_ (by simp) _ | refine below_drewN' ?_ _))
  have x1 := (hb0.cell (p := ⟨B1, 0, none⟩) (World.block_lt_of_cell? w _ h1)).trans h1
  have x2 := (hb0.cell (p := ⟨B2, 0, none⟩) (World.block_lt_of_cell? w _ h2)).trans h2
  have HE := hid (he.below hb0)
  have HC := hid (hc.below hb0)
  have HB0 := hid hb0
  have HX := hid (Box.made w 55 [.int .i64 a, .int .i64 b, .int .i64 c])
  clear h1 h2 he hc hb0
  obtain ⟨b2, hb2⟩ : ∃ b2, b2 = inL a excl := ⟨_, rfl⟩
  obtain ⟨n3, hn3⟩ : ∃ n3, n3 = lookS cls a := ⟨_, rfl⟩
  obtain ⟨n4, hn4⟩ : ∃ n4, n4 = lookS cls b := ⟨_, rfl⟩
  have HR := hid (show (c == 0 || b2 || n3 != 0 || n4 != 0) = delS excl cls ⟨a, b, c⟩ by rw [hb2, hn3, hn4]; rfl)
  have HI := hid hb2
  have HN3 := hid hn3
  have HN4 := hid hn4
  clear hb2 hn3 hn4
  obtain ⟨b1, hb1⟩ : ∃ b1, b1 = (c == 0) := ⟨_, rfl⟩
  obtain ⟨b3, hb3⟩ : ∃ b3, b3 = (n3 != 0) := ⟨_, rfl⟩
  obtain ⟨b4, hb4⟩ : ∃ b4, b4 = (n4 != 0) := ⟨_, rfl⟩
  rw [← hb1, ← hb3, ← hb4] at HR
  replace hb1 := hb1.symm
  replace hb3 := hb3.symm
  replace hb4 := hb4.symm
  cases b1 with
  | true =>
    go_enter Try.func88, Try.ntmps88
    go_wp2_with (fail)
    go_ret
    exact ⟨by rw [← HR.out]; rfl, HB0.out⟩
  | false =>
    cases b2 with
    | true =>
      go_enter Try.func88, Try.ntmps88
      go_wp2_with (first
        | (go_at_call 89; refine (slicesContains ve excl a _ HE.out).mono ?_; rw [← HI.out]; rintro e w1 ⟨rfl, rfl⟩))
      go_ret
      exact ⟨by rw [← HR.out]; rfl, HB0.out⟩
    | false =>
      cases b3 with
      | true =>
        go_enter Try.func88, Try.ntmps88
        go_wp2_with (first
          | (go_at_call 89; refine (slicesContains ve excl a _ HE.out).mono ?_; rw [← HI.out]; rintro e w1 ⟨rfl, rfl⟩)
          | (go_at_call 46; refine (rngFlat vc cls a _ HC.out).mono ?_; rw [← HN3.out]; rintro e w2 ⟨rfl, hb2'⟩; have HB2 := hid hb2'; clear hb2'; have HX2 := hid (HX.out.below HB2.out HX.out.lt); have x3 := (HB2.out.cell (p := ⟨B2, 0, none⟩) (World.block_lt_of_cell? _ _ x2)).trans x2; have y0 := HX2.out.cell 0; have y1 := HX2.out.cell 1; have y2 := HX2.out.cell 2; simp only [List.getElem?_cons_zero, List.getElem?_cons_succ] at y0 y1 y2))
        go_ret
        exact ⟨by rw [← HR.out]; rfl, HB0.out.trans (HB2.out.mono HB0.out.size)⟩
      | false =>
        cases b4 with
        | true =>
          go_enter Try.func88, Try.ntmps88
          go_wp2_with (first
            | (go_at_call 89; refine (slicesContains ve excl a _ HE.out).mono ?_; rw [← HI.out]; rintro e w1 ⟨rfl, rfl⟩)
            | (have _u := HB2; clear _u; go_at_call 46; refine (rngFlat vc cls b w2 (HC.out.below HB2.out)).mono ?_; rw [← HN4.out]; rintro e w3 ⟨rfl, hb3'⟩; have HB3 := hid (HB2.out.trans (hb3'.mono HB2.out.size)); clear hb3')
            | (go_at_call 46; refine (rngFlat vc cls a _ HC.out).mono ?_; rw [← HN3.out]; rintro e w2 ⟨rfl, hb2'⟩; have HB2 := hid hb2'; clear hb2'; have HX2 := hid (HX.out.below HB2.out HX.out.lt); have x3 := (HB2.out.cell (p := ⟨B2, 0, none⟩) (World.block_lt_of_cell? _ _ x2)).trans x2; have y0 := HX2.out.cell 0; have y1 := HX2.out.cell 1; have y2 := HX2.out.cell 2; simp only [List.getElem?_cons_zero, List.getElem?_cons_succ] at y0 y1 y2))
          go_ret
          exact ⟨by rw [← HR.out]; rfl, HB0.out.trans (HB3.out.mono HB0.out.size)⟩
        | false =>
          go_enter Try.func88, Try.ntmps88
          go_wp2_with (first
            | (go_at_call 89; refine (slicesContains ve excl a _ HE.out).mono ?_; rw [← HI.out]; rintro e w1 ⟨rfl, rfl⟩)
            | (have _u := HB2; clear _u; go_at_call 46; refine (rngFlat vc cls b w2 (HC.out.below HB2.out)).mono ?_; rw [← HN4.out]; rintro e w3 ⟨rfl, hb3'⟩; have HB3 := hid (HB2.out.trans (hb3'.mono HB2.out.size)); clear hb3')
            | (go_at_call 46; refine (rngFlat vc cls a _ HC.out).mono ?_; rw [← HN3.out]; rintro e w2 ⟨rfl, hb2'⟩; have HB2 := hid hb2'; clear hb2'; have HX2 := hid (HX.out.below HB2.out HX.out.lt); have x3 := (HB2.out.cell (p := ⟨B2, 0, none⟩) (World.block_lt_of_cell? _ _ x2)).trans x2; have y0 := HX2.out.cell 0; have y1 := HX2.out.cell 1; have y2 := HX2.out.cell 2; simp only [List.getElem?_cons_zero, List.getElem?_cons_succ] at y0 y1 y2))
          go_ret
          exact ⟨by rw [← HR.out]; rfl, HB0.out.trans (HB3.out.mono HB0.out.size)⟩
end Go.Proofs.Ytimbchkoomjhkaa
