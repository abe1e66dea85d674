/- Several texts in one: TelOk, LawBack18, LawNormal18, LawHas18. -/
import Derived.Test.YtobicndpkojgiaaPk25
import Derived.Test.YtobicndpkojgiaaPk2
import Derived.Test.YtobicndpkojgiaaPk20
import Derived.Test.YtobicndpkojgiaaPk1
/-! TelOk -/
namespace Go.Proofs.Ytobicndpkojgiaa
open Go.RowKit

/-- what was read, where it failed, how -/
def r3L : List Int ⊕ (Nat × Int) → List Int
  | .inl x => x
  | .inr _ => []
def r3At : List Int ⊕ (Nat × Int) → Nat
  | .inl _ => 0
  | .inr (i, _) => i
def r3E : List Int ⊕ (Nat × Int) → Int
  | .inl _ => 0
  | .inr (_, e) => e
def TReadOk : Prop := ∀ (v : Value) (b : List Int) (w : World), Sl .u8 w v b → U8 b → b.length ≤ 100000 → Calls Try.prog 13 #[v] w fun e w' => ∃ x, e = .returned (.tuple #[x, .int .i64 (r3At (read18 b)), .int .i64 (r3E (read18 b))]) ∧ Sl .i64 w' x (r3L (read18 b)) ∧ Below w.heap.size w w'
def TPutOk : Prop := ∀ (v : Value) (s : List Int) (w : World), Sl .i64 w v s → s.all inI = true → s.length ≤ 100000 → Calls Try.prog 10 #[v] w fun e w' => ∃ x, e = .returned (.tuple #[x, .int .i64 (outAt (put18 s)), .int .i64 (outE 14 (put18 s))]) ∧ Sl .u8 w' x (outL (put18 s)) ∧ Below w.heap.size w w'
def THasOk : Prop := ∀ (c : Int) (w : World), inI c = true → Calls Try.prog 11 #[.int .i64 c] w fun e w' => e = .returned (.bool (has18 c)) ∧ Below w.heap.size w w'
set_option maxRecDepth 1000000 in
theorem w18_put : put18 [192, 945] = .inl [193, 65, 27, 40, 70, 97] := by decide +kernel
set_option maxRecDepth 1000000 in
theorem w18_read : read18 [193, 65] = .inl [192] := by decide +kernel
set_option maxRecDepth 1000000 in
theorem w18_bad : put18 [65, 19968] = .inr 1 := by decide +kernel
set_option maxRecDepth 1000000 in
theorem w18_has : has18 36 = true := by decide +kernel

set_option maxHeartbeats 4000000 in
theorem lawWakes18 (HR : TReadOk) (HP : TPutOk) (HH : THasOk) (w : World) : Calls Try.prog 12 #[] w fun e w' => e = .returned (.bool true) ∧ Below w.heap.size w w' := by
  have H1 := hid (fun v w h => HP v [192, 945] w h (by decide) (by decide))
  rw [w18_put] at H1
  have H2 := hid (fun v w h => HR v [193, 65] w h (by unfold U8; decide) (by decide))
  rw [w18_read] at H2
  have H3 := hid (fun v w h => HP v [65, 19968] w h (by decide) (by decide))
  rw [w18_bad] at H3
  have H4 := hid (fun w => HH 36 w (by decide))
  rw [w18_has] at H4
  simp only [outAt, outE, outL, r3L, r3At, r3E] at H1 H2 H3
  have HB0 := hid (Below.refl w.heap.size w)
  clear HP HR HH
  go_enter Try.func12, Try.ntmps12
  go_wp2_with (first
    | (have _u := HB5; clear _u; go_at_call 11; with_reducible refine (H4.out _).mono ?_; rintro e w6 ⟨rfl, hb6⟩; have HB6 := hid (HB5.out.trans (hb6.mono HB5.out.size)); clear hb6)
    | (have _u := HB4; clear _u; go_at_call 14; refine (keepInts _ _ [192] [192] _ (S_s_4.out.below (by (repeat (first | exact Below.refl _ _ | exact below_drewN _ | refine Below.drew ?_ | refine Below.alloc ?_ (by simp) _ | refine Below.setCell ?_ (by simp) _ | refine below_drewN' ?_ _)))) (lit_sl (by first | simp | rfl) rfl rfl (by simp))).mono ?_; rw [eqL_self]; rintro e w5 ⟨rfl, n5, hw5⟩; have hb5 : Below w4.heap.size w4 w5 := (by rw [hw5]; exact below_drewN' ((Below.refl _ _).alloc (Nat.le_refl _) _) n5); clear hw5; have HB5 := hid (HB4.out.trans (hb5.mono HB4.out.size)); clear hb5)
    | (have _u := HB3; clear _u; go_at_call 15; refine (keepBytes _ _ [193, 65, 27, 40, 70, 97] [193, 65, 27, 40, 70, 97] _ (S_b_3.out.below (by (repeat (first | exact Below.refl _ _ | exact below_drewN _ | refine Below.drew ?_ | refine Below.alloc ?_ (by simp) _ | refine Below.setCell ?_ (by simp) _ | refine below_drewN' ?_ _)))) (lit_sl (by first | simp | rfl) rfl rfl (by simp))).mono ?_; rw [eqL_self]; rintro e w4 ⟨rfl, n4, hw4⟩; have hb4 : Below w3.heap.size w3 w4 := (by rw [hw4]; exact below_drewN' ((Below.refl _ _).alloc (Nat.le_refl _) _) n4); clear hw4; have S_s_4 := hid (S_s_3.out.below hb4); have HB4 := hid (HB3.out.trans (hb4.mono HB3.out.size)); clear hb4)
    | (have _u := HB2; clear _u; go_at_call 10; refine (H3.out _ _ (lit_sl (by first | simp | rfl) rfl rfl (by simp))).mono ?_; rintro e w3 ⟨v3, rfl, ho3, hb3⟩; replace hb3 := ((Below.refl w2.heap.size w2).alloc (Nat.le_refl _) _).trans (hb3.mono (by first | (simp; done) | (simp; omega))); have S_b_3 := hid (S_b_2.out.below hb3); have S_s_3 := hid (S_s_2.out.below hb3); clear ho3; have HB3 := hid (HB2.out.trans (hb3.mono HB2.out.size)); clear hb3)
    | (have _u := HB1; clear _u; go_at_call 13; refine (H2.out _ _ (lit_sl (by first | simp | rfl) rfl rfl (by simp))).mono ?_; rintro e w2 ⟨v2, rfl, ho2, hb2⟩; replace hb2 := ((Below.refl w1.heap.size w1).alloc (Nat.le_refl _) _).trans (hb2.mono (by first | (simp; done) | (simp; omega))); have S_b_2 := hid (S_b_1.out.below hb2); have S_s_2 := hid ho2; clear ho2; have HB2 := hid (HB1.out.trans (hb2.mono HB1.out.size)); clear hb2)
    | (have _u := HB0; clear _u; go_at_call 10; refine (H1.out _ _ (lit_sl (by first | simp | rfl) rfl rfl (by simp))).mono ?_; rintro e w1 ⟨v1, rfl, ho1, hb1⟩; replace hb1 := ((Below.refl w.heap.size w).alloc (Nat.le_refl _) _).trans (hb1.mono (by first | (simp; done) | (simp; omega))); have S_b_1 := hid ho1; clear ho1; have HB1 := hid (HB0.out.trans (hb1.mono HB0.out.size)); clear hb1))
  go_ret
  exact ⟨rfl, HB6.out⟩
end Go.Proofs.Ytobicndpkojgiaa

/-! LawBack18 -/
namespace Go.Proofs.Ytobicndpkojgiaa
open Go.RowKit

set_option maxRecDepth 10000 in
set_option maxHeartbeats 4000000 in
theorem walkBack18 (HR : TReadOk) (HP : TPutOk) (HH : THasOk) (v : Value) (s : List Int) (w : World) (h : Sl .i64 w v s) (hi : s.all inI = true) :
    Calls Try.prog 3 #[v] w fun e w' => e = .returned (.bool true) ∧ Below w.heap.size w w' := by
  have HS_s := hid h
  have ml_s := h.len
  obtain ⟨a_s, c_s, hv_s⟩ := h.form
  obtain ⟨ns, hn_s⟩ : ∃ n, n = s.length := ⟨_, rfl⟩
  rw [← hn_s] at hv_s ml_s
  subst hv_s
  have HN_s := hid hn_s
  clear hn_s h
  have HW := hid (fun w => lawWakes18 HR HP HH w)
  have HB0 := hid (Below.refl w.heap.size w)
  by_cases hl_ns : ns ≤ 300
  · have G1 := hid (fun v w h => HP v s w h hi (by have := HN_s.out; omega))
    cases hp : put18 s with
    | inl x =>
      have hx := put_bytes18 hp
      have hxl := put_len18 hp
      have G2 := hid (fun v w h => HR v x w h hx (by have := HN_s.out; omega))
      rw [read_put hp] at G2
      rw [hp] at G1
      simp only [outAt, outE, outL, r3L, r3At, r3E] at G1 G2
      clear HP HR HH hi hp hx hxl
      go_enter Try.func3, Try.ntmps3
      go_wp2_with (first
        | (have _u := HB3; clear _u; go_at_call 12; refine (HW.out _).mono ?_; rintro e w4 ⟨rfl, hb4⟩; have HB4 := hid (HB3.out.trans (hb4.mono HB3.out.size)); clear hb4)
        | (have _u := HB2; clear _u; go_at_call 14; refine (keepInts _ _ s s _ S_y_2.out S_s_2.out).mono ?_; rw [eqL_self]; rintro e w3 ⟨rfl, n3, hw3⟩; have hb3 : Below w2.heap.size w2 w3 := (by rw [hw3]; exact below_drewN n3); clear hw3; have HB3 := hid (HB2.out.trans (hb3.mono HB2.out.size)); clear hb3)
        | (have _u := HB1; clear _u; go_at_call 13; with_reducible refine (G2.out _ _ S_x_1.out).mono ?_; rintro e w2 ⟨v2, rfl, ho2, hb2⟩; have S_s_2 := hid (S_s_1.out.below hb2); have S_y_2 := hid ho2; clear ho2; have HB2 := hid (HB1.out.trans (hb2.mono HB1.out.size)); clear hb2)
        | (have _u := HB0; clear _u; go_at_call 10; with_reducible refine (G1.out _ _ HS_s.out).mono ?_; rintro e w1 ⟨v1, rfl, ho1, hb1⟩; have S_s_1 := hid (HS_s.out.below hb1); have S_x_1 := hid ho1; clear ho1; have HB1 := hid (HB0.out.trans (hb1.mono HB0.out.size)); clear hb1))
      go_ret
      exact ⟨rfl, HB4.out⟩
    | inr k =>
      obtain ⟨hk, hb⟩ := put_first18 hp
      have hk2 : k < ns := by have := HN_s.out; omega
      have hk3 : (k : Int) < (ns : Int) := by omega
      have hki : inI (s.getD k 0) = true := by
        have e : s.getD k 0 = s[k] := by rw [List.getD_eq_getElem?_getD, List.getElem?_eq_getElem hk]; rfl
        rw [e]
        exact List.all_eq_true.1 hi _ (List.getElem_mem hk)
      have G3 := hid (fun w => HH (s.getD k 0) w hki)
      rw [hb] at G3
      rw [hp] at G1
      simp only [outAt, outE, outL] at G1
      obtain ⟨a', c', hv', -, -, hh⟩ := HS_s.out
      injection hv' with e1 e2 e3
      subst e1 e3
      rcases hh with hh | ⟨b1, o1, rfl, hbq, cq⟩
      · have := HS_s.out.cap_ge18
        have := HN_s.out
        omega
      have hbq := hbq (by omega)
      have d0 := cq k hk
      generalize s.getD k 0 = x at d0 G3
      clear HP HR HH hi hp hk hb cq hki e2
      go_enter Try.func3, Try.ntmps3
      go_wp2_with (first
        | (have _u := HB2; clear _u; go_at_call 12; refine (HW.out _).mono ?_; rintro e w3 ⟨rfl, hb3⟩; have HB3 := hid (HB2.out.trans (hb3.mono HB2.out.size)); clear hb3)
        | (have _u := HB1; clear _u; go_at_call 11; refine (G3.out _).mono ?_; rintro e w2 ⟨rfl, hb2⟩; have HB2 := hid (HB1.out.trans (hb2.mono HB1.out.size)); clear hb2)
        | (have _u := HB0; clear _u; go_at_call 10; with_reducible refine (G1.out _ _ HS_s.out).mono ?_; rintro e w1 ⟨v1, rfl, ho1, hb1⟩; obtain ⟨a1, c1, hv1⟩ := ho1.form; simp only [List.length_nil] at hv1; subst hv1; clear ho1; have d1 := ((HB0.out.trans (hb1.mono HB0.out.size)).cell (p := ⟨b1, o1 + k, none⟩) hbq).trans d0; have HB1 := hid (HB0.out.trans (hb1.mono HB0.out.size)); clear hb1))
      go_ret
      exact ⟨rfl, HB3.out⟩
  · have hf_ns : 300 < ns := by omega
    clear hl_ns HP HR HH
    go_enter Try.func3, Try.ntmps3
    go_wp2
    go_ret
    exact ⟨rfl, Below.refl _ _⟩
end Go.Proofs.Ytobicndpkojgiaa

/-! LawNormal18 -/
namespace Go.Proofs.Ytobicndpkojgiaa
open Go.RowKit

set_option maxRecDepth 10000 in
set_option maxHeartbeats 4000000 in
theorem walkNormal18 (HR : TReadOk) (HP : TPutOk) (HH : THasOk) (v : Value) (b : List Int) (w : World) (h : Sl .u8 w v b) (hu : U8 b) :
    Calls Try.prog 4 #[v] w fun e w' => e = .returned (.bool true) ∧ Below w.heap.size w w' := by
  have HS_b := hid h
  have ml_b := h.len
  obtain ⟨a_b, c_b, hv_b⟩ := h.form
  obtain ⟨nb, hn_b⟩ : ∃ n, n = b.length := ⟨_, rfl⟩
  rw [← hn_b] at hv_b ml_b
  subst hv_b
  have HN_b := hid hn_b
  clear hn_b h
  have HW := hid (fun w => lawWakes18 HR HP HH w)
  have HB0 := hid (Below.refl w.heap.size w)
  by_cases hl_nb : nb ≤ 300
  · have G1 := hid (fun v w h => HR v b w h hu (by have := HN_b.out; omega))
    cases hr : read18 b with
    | inl S =>
      obtain ⟨X, hp⟩ := put_all18 (read_has hr)
      have hsl := read_len18 hr
      have hx := put_bytes18 hp
      have hxl := put_len18 hp
      have G2 := hid (fun v w h => HP v S w h (read_in18 hu hr) (by have := HN_b.out; omega))
      have G3 := hid (fun v w h => HR v X w h hx (by have := HN_b.out; omega))
      rw [read_put hp] at G3
      rw [hp] at G2
      rw [hr] at G1
      simp only [outAt, outE, outL, r3L, r3At, r3E] at G1 G2 G3
      clear HP HR HH hu hp hr hx hxl hsl
      go_enter Try.func4, Try.ntmps4
      go_wp2_with (first
        | (have _u := HB6; clear _u; go_at_call 12; refine (HW.out _).mono ?_; rintro e w7 ⟨rfl, hb7⟩; have HB7 := hid (HB6.out.trans (hb7.mono HB6.out.size)); clear hb7)
        | (have _u := HB5; clear _u; go_at_call 15; refine (keepBytes _ _ X X _ S_x_5.out S_y_5.out).mono ?_; rw [eqL_self]; rintro e w6 ⟨rfl, n6, hw6⟩; have hb6 : Below w5.heap.size w5 w6 := (by rw [hw6]; exact below_drewN n6); clear hw6; have HB6 := hid (HB5.out.trans (hb6.mono HB5.out.size)); clear hb6)
        | (have _u := HB4; clear _u; go_at_call 14; refine (keepInts _ _ S S _ S_r_4.out S_s_4.out).mono ?_; rw [eqL_self]; rintro e w5 ⟨rfl, n5, hw5⟩; have hb5 : Below w4.heap.size w4 w5 := (by rw [hw5]; exact below_drewN n5); clear hw5; have S_x_5 := hid (S_x_4.out.below hb5); have S_y_5 := hid (S_y_4.out.below hb5); have HB5 := hid (HB4.out.trans (hb5.mono HB4.out.size)); clear hb5)
        | (have _u := HB3; clear _u; go_at_call 10; with_reducible refine (G2.out _ _ S_r_3.out).mono ?_; rintro e w4 ⟨v4, rfl, ho4, hb4⟩; have S_s_4 := hid (S_s_3.out.below hb4); have S_x_4 := hid (S_x_3.out.below hb4); have S_r_4 := hid (S_r_3.out.below hb4); have S_y_4 := hid ho4; clear ho4; have HB4 := hid (HB3.out.trans (hb4.mono HB3.out.size)); clear hb4)
        | (have _u := HB2; clear _u; go_at_call 13; with_reducible refine (G3.out _ _ S_x_2.out).mono ?_; rintro e w3 ⟨v3, rfl, ho3, hb3⟩; have S_s_3 := hid (S_s_2.out.below hb3); have S_x_3 := hid (S_x_2.out.below hb3); have S_r_3 := hid ho3; clear ho3; have HB3 := hid (HB2.out.trans (hb3.mono HB2.out.size)); clear hb3)
        | (have _u := HB1; clear _u; go_at_call 10; with_reducible refine (G2.out _ _ S_s_1.out).mono ?_; rintro e w2 ⟨v2, rfl, ho2, hb2⟩; have S_s_2 := hid (S_s_1.out.below hb2); have S_x_2 := hid ho2; clear ho2; have HB2 := hid (HB1.out.trans (hb2.mono HB1.out.size)); clear hb2)
        | (have _u := HB0; clear _u; go_at_call 13; with_reducible refine (G1.out _ _ HS_b.out).mono ?_; rintro e w1 ⟨v1, rfl, ho1, hb1⟩; have S_s_1 := hid ho1; clear ho1; have HB1 := hid (HB0.out.trans (hb1.mono HB0.out.size)); clear hb1))
      go_ret
      exact ⟨rfl, HB7.out⟩
    | inr y =>
      obtain ⟨i, e⟩ := y
      have he := read_err18 hr
      have hee : (e == 0) = false := by simpa using he
      have hen : (e != 0) = true := by simpa using he
      rw [hr] at G1
      simp only [r3L, r3At, r3E] at G1
      clear HP HR HH hu hr he
      go_enter Try.func4, Try.ntmps4
      go_wp2_with (first
        | (have _u := HB1; clear _u; go_at_call 12; refine (HW.out _).mono ?_; rintro e w2 ⟨rfl, hb2⟩; have HB2 := hid (HB1.out.trans (hb2.mono HB1.out.size)); clear hb2)
        | (have _u := HB0; clear _u; go_at_call 13; with_reducible refine (G1.out _ _ HS_b.out).mono ?_; rintro e w1 ⟨v1, rfl, ho1, hb1⟩; obtain ⟨a1, c1, hv1⟩ := ho1.form; simp only [List.length_nil] at hv1; subst hv1; clear ho1; have HB1 := hid (HB0.out.trans (hb1.mono HB0.out.size)); clear hb1))
      go_ret
      exact ⟨rfl, HB2.out⟩
  · have hf_nb : 300 < nb := by omega
    clear hl_nb HP HR HH
    go_enter Try.func4, Try.ntmps4
    go_wp2
    go_ret
    exact ⟨rfl, Below.refl _ _⟩
end Go.Proofs.Ytobicndpkojgiaa

/-! LawHas18 -/
namespace Go.Proofs.Ytobicndpkojgiaa
open Go.RowKit

set_option maxRecDepth 10000 in
set_option maxHeartbeats 4000000 in
theorem walkHas18 (HR : TReadOk) (HP : TPutOk) (HH : THasOk) (v : Value) (s : List Int) (w : World) (h : Sl .i64 w v s) (hi : s.all inI = true) :
    Calls Try.prog 5 #[v] w fun e w' => e = .returned (.bool true) ∧ Below w.heap.size w w' := by
  have HS_s := hid h
  have ml_s := h.len
  obtain ⟨a_s, c_s, hv_s⟩ := h.form
  obtain ⟨ns, hn_s⟩ : ∃ n, n = s.length := ⟨_, rfl⟩
  rw [← hn_s] at hv_s ml_s
  subst hv_s
  have HN_s := hid hn_s
  clear hn_s h
  have HW := hid (fun w => lawWakes18 HR HP HH w)
  have HB0 := hid (Below.refl w.heap.size w)
  by_cases hl_ns : ns ≤ 300
  · have G1 := hid (fun v w h => HP v s w h hi (by have := HN_s.out; omega))
    have hin : ∀ j, j < ns → inI (s.getD j 0) = true := fun j hj => by
      have e : s.getD j 0 = s[j]'(by have := HN_s.out; omega) := by rw [List.getD_eq_getElem?_getD, List.getElem?_eq_getElem (by have := HN_s.out; omega)]; rfl
      rw [e]
      exact List.all_eq_true.1 hi _ (List.getElem_mem _)
    cases hp : put18 s with
    | inl x =>
      have HALL := hid (fun j (hj : j < ns) w => (show Calls Try.prog 11 #[.int .i64 (s.getD j 0)] w fun e w' => e = .returned (.bool true) ∧ Below w.heap.size w w' from by
        have h1 := HH (s.getD j 0) w (hin j hj)
        have h2 := put_has18 hp (by have := HN_s.out; omega : j < s.length)
        rwa [h2] at h1))
      rw [hp] at G1
      simp only [outAt, outE, outL] at G1
      clear HP HR HH hi hp hin
      go_enter Try.func5, Try.ntmps5
      go_wp2_with (fail)
      go_loopw [3, 4] (fun av iv wr => ∃ i : Int, -1 ≤ i ∧ i < ns ∧ iv = .int .i64 i ∧ av = .int .i64 (ns : Int) ∧ Hid (Below w.heap.size w wr)) (fun _ iv _ => (intOf iv + 1).toNat)
      case atStart => exact ⟨(ns : Int) - 1, by omega, by omega, by go_num, rfl, Below.refl _ _⟩
      case round =>
        obtain ⟨i, h1, h2, rfl, rfl, hbel⟩ := hrel
        by_cases h0 : 0 ≤ i
        · obtain ⟨j, rfl⟩ : ∃ j : Nat, i = (j : Int) := ⟨i.toNat, by omega⟩
          obtain ⟨a', c', hv', -, -, hh⟩ := HS_s.out
          injection hv' with e1 e2 e3
          subst e1 e3
          rcases hh with hh | ⟨b1, o1, rfl, hb1, c1⟩
          · have := HS_s.out.cap_ge18
            have := HN_s.out
            omega
          have hb1 := hb1 (by omega)
          have d1 := (hbel.out.cell (p := ⟨b1, o1 + j, none⟩) hb1).trans (c1 j (by have := HN_s.out; omega))
          have HC := hid (HALL.out j (by omega))
          generalize s.getD j 0 = x at d1 HC
          clear c1 e2
          go_wp2_with (go_at_call 11; refine (HC.out wr).mono ?_; rintro e w1 ⟨rfl, hb1⟩; have HB1 := hid (hbel.out.trans (hb1.mono hbel.out.size)); clear hb1)
          go_roundw
          case rel => exact ⟨(j : Int) - 1, by omega, by omega, by go_num, rfl, HB1.out⟩
          case measure => simp [intOf] <;> omega
        · obtain rfl : i = -1 := by omega
          go_wp2_with (first
            | (have _u := HB2; clear _u; go_at_call 12; refine (HW.out _).mono ?_; rintro e w3 ⟨rfl, hb3⟩; have HB3 := hid (HB2.out.trans (hb3.mono HB2.out.size)); clear hb3)
            | (go_at_call 10; refine (G1.out _ _ (HS_s.out.below hbel.out)).mono ?_; rintro e w2 ⟨v2, rfl, ho2, hb2⟩; have HB2 := hid (hbel.out.trans (hb2.mono hbel.out.size)); clear ho2 hb2))
          go_ret
          exact ⟨rfl, HB3.out⟩
    | inr K =>
      obtain ⟨hK1, hK2, hK3⟩ := put_firsts18 hp
      have HK := hid (show K < ns by have := HN_s.out; omega)
      have HALL := hid (fun j (hj : j < ns) w => HH (s.getD j 0) w (hin j hj))
      have HF := hid (fun j (hj : j = K) => (show has18 (s.getD j 0) = false from by rw [hj]; exact hK2))
      have HT := hid (fun j (hj : j < K) => hK3 j hj)
      rw [hp] at G1
      simp only [outAt, outE, outL] at G1
      clear HP HR HH hi hp hin hK1 hK2 hK3
      go_enter Try.func5, Try.ntmps5
      go_wp2_with (fail)
      go_loopw [3, 4] (fun av iv wr => ∃ (i : Int) (a : Nat), -1 ≤ i ∧ i < ns ∧ iv = .int .i64 i ∧ av = .int .i64 (a : Int) ∧ Hid (i < (K : Int) → a = K) ∧ Hid (Below w.heap.size w wr)) (fun _ iv _ => (intOf iv + 1).toNat)
      case atStart => exact ⟨(ns : Int) - 1, ns, by omega, by omega, by go_num, rfl, fun h => by have := HK.out; omega, Below.refl _ _⟩
      case round =>
        obtain ⟨i, a, h1, h2, rfl, rfl, hak, hbel⟩ := hrel
        by_cases h0 : 0 ≤ i
        · obtain ⟨j, rfl⟩ : ∃ j : Nat, i = (j : Int) := ⟨i.toNat, by omega⟩
          have HFj := hid (HF.out j)
          have HTj := hid (HT.out j)
          obtain ⟨a', c', hv', -, -, hh⟩ := HS_s.out
          injection hv' with e1 e2 e3
          subst e1 e3
          rcases hh with hh | ⟨b1, o1, rfl, hb1, c1⟩
          · have := HS_s.out.cap_ge18
            have := HN_s.out
            omega
          have hb1 := hb1 (by omega)
          have d1 := (hbel.out.cell (p := ⟨b1, o1 + j, none⟩) hb1).trans (c1 j (by have := HN_s.out; omega))
          have HC := hid (HALL.out j (by omega))
          generalize s.getD j 0 = x at d1 HC HFj HTj
          clear c1 e2
          cases hb : has18 x with
          | true =>
            rw [hb] at HC HFj
            have HJ := hid (show ((j : Int) - 1 < (K : Int) → a = K) from fun h => by
              have : j ≠ K := fun e => by have := HFj.out e; cases this
              exact hak.out (by omega))
            clear hb HFj HTj
            go_wp2_with (go_at_call 11; refine (HC.out wr).mono ?_; rintro e w1 ⟨rfl, hb1⟩; have HB1 := hid (hbel.out.trans (hb1.mono hbel.out.size)); clear hb1)
            go_roundw
            case rel => exact ⟨(j : Int) - 1, a, by omega, by omega, by go_num, rfl, HJ.out, HB1.out⟩
            case measure => simp [intOf] <;> omega
          | false =>
            rw [hb] at HC HTj
            have HJ := hid (show ((j : Int) - 1 < (K : Int) → j = K) from fun h => by
              apply Classical.byContradiction
              intro hne
              have := HTj.out (by omega)
              cases this)
            clear hb HFj HTj
            go_wp2_with (go_at_call 11; refine (HC.out wr).mono ?_; rintro e w1 ⟨rfl, hb1⟩; have HB1 := hid (hbel.out.trans (hb1.mono hbel.out.size)); clear hb1)
            go_roundw
            case rel => exact ⟨(j : Int) - 1, j, by omega, by omega, by go_num, rfl, HJ.out, HB1.out⟩
            case measure => simp [intOf] <;> omega
        · obtain rfl : i = -1 := by omega
          obtain rfl : a = K := hak.out (by omega)
          have hz : (a : Int) < (ns : Int) := by have := HK.out; omega
          go_wp2_with (first
            | (have _u := HB2; clear _u; go_at_call 12; refine (HW.out _).mono ?_; rintro e w3 ⟨rfl, hb3⟩; have HB3 := hid (HB2.out.trans (hb3.mono HB2.out.size)); clear hb3)
            | (go_at_call 10; refine (G1.out _ _ (HS_s.out.below hbel.out)).mono ?_; rintro e w2 ⟨v2, rfl, ho2, hb2⟩; have HB2 := hid (hbel.out.trans (hb2.mono hbel.out.size)); clear ho2 hb2))
          go_ret
          exact ⟨rfl, HB3.out⟩
  · have hf_ns : 300 < ns := by omega
    clear hl_ns HP HR HH
    go_enter Try.func5, Try.ntmps5
    go_wp2
    go_ret
    exact ⟨rfl, Below.refl _ _⟩
end Go.Proofs.Ytobicndpkojgiaa
