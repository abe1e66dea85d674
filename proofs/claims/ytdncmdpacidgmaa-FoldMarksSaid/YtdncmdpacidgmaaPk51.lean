/- Several texts in one: LawTwice12. -/
import Derived.Test.YtdncmdpacidgmaaPk31
import Derived.Test.YtdncmdpacidgmaaPk5
import Derived.Test.YtdncmdpacidgmaaPk1
/-! LawTwice12 -/
namespace Go.Proofs.Ytdncmdpacidgmaa
open Go.RowKit

set_option maxHeartbeats 4000000 in
theorem walkTwice12 (HO : FOneOk) (HA : FAllOk) (va vb : Value) (a b : List Int) (w : World) (h1 : Sl .i64 w va a) (h2 : Sl .i64 w vb b) (ha : a.all inI = true) (hb : b.all inI = true) :
    Calls Try.prog 4 #[va, vb] w fun e w' => e = .returned (.bool true) ∧ Below w.heap.size w w' := by
  have HS1 := hid h1
  have HS2 := hid h2
  have m1 := h1.len
  have m2 := h2.len
  obtain ⟨a1, c1, hv1⟩ := h1.form
  obtain ⟨a2, c2, hv2⟩ := h2.form
  obtain ⟨n1, hn1⟩ : ∃ n, n = a.length := ⟨_, rfl⟩
  obtain ⟨n2, hn2⟩ : ∃ n, n = b.length := ⟨_, rfl⟩
  rw [← hn1] at hv1 m1
  rw [← hn2] at hv2 m2
  subst hv1 hv2
  have HN1 := hid hn1
  have HN2 := hid hn2
  have HW := hid (fun w => lawWakes12 HO HA w)
  have HB0 := hid (Below.refl w.heap.size w)
  clear hn1 hn2 h1 h2
  by_cases hl1 : n1 ≤ 300
  · by_cases hl2 : n2 ≤ 300
    · have hab : (a ++ b).all inI = true := by rw [List.all_append, ha, hb]; rfl
      have L1 := hid (show (foldAllS a).length ≤ 1000 by have := foldAll_len a; have := HN1.out; omega)
      have L2 := hid (show (foldAllS b).length ≤ 1000 by have := foldAll_len b; have := HN2.out; omega)
      have G1 := hid (fun v w h => HA v a w h ha (by have := HN1.out; omega))
      have G2 := hid (fun v w h => HA v (foldAllS a) w h (foldAll_inI ha) (by have := L1.out; omega))
      rw [foldAll_twice] at G2
      have G4 := hid (fun v w h => keepTwinInts v a w h (by have := HN1.out; omega))
      have G6 := hid (fun v w h => HA v (a ++ b) w h hab (by rw [List.length_append]; have := HN1.out; have := HN2.out; omega))
      rw [foldAll_app] at G6
      have G7 := hid (fun v w h => HA v b w h hb (by have := HN2.out; omega))
      generalize foldAllS a = A at G1 G2 G6 L1
      generalize foldAllS b = B at G6 G7 L2
      clear HO HA ha hb hab
      go_enter Try.func4, Try.ntmps4
      go_wp2_with (first
        | (have _u := HB9; clear _u; go_at_call 14; refine (HW.out _).mono ?_; rintro e w10 ⟨rfl, hb10⟩; have HB10 := hid (HB9.out.trans (hb10.mono HB9.out.size)); clear hb10)
        | (have _u := HB8; clear _u; go_at_call 9; refine (keepInts _ _ (A ++ B) (A ++ B) _ S_z_8.out S_v_8.out).mono ?_; rw [eqL_self]; rintro e w9 ⟨rfl, n9, hw9⟩; have hb9 : Below w8.heap.size w8 w9 := (by rw [hw9]; exact below_drewN n9); clear hw9; have HB9 := hid (HB8.out.trans (hb9.mono HB8.out.size)); clear hb9)
        | (have _u := HB7; clear _u; at_builtin; go_loud (refine wpList_guarded (by rfl) ?_; refine wpList_app _ rfl _ _ 22 rfl .i64 w.heap.size 3 8 Try.underlying22 Try.infoI64 _ A B rfl (O_x.out.below HC7.out) _ rfl S_bb_7.out (by have := L1.out; have := L2.out; unfold maxLen; omega) (by have := L1.out; have := L2.out; omega) HB7.out.size ?_); intro v8 w8 ho8 hg8 hb8 hn8; clear hn8; have S_z_8 := hid (Own.apart (O_z.out.below HZ7.out) (fun r hr => by have h1 := O_x.out.lt' r hr; have := HC5.out.size; omega) hg8).sl; have S_v_8 := hid ho8.sl; have HB8 := hid (HB7.out.trans hb8); clear hb8 hg8 ho8)
        | (have _u := HB6; clear _u; go_at_call 12; with_reducible refine (G7.out _ _ S_b_6.out).mono ?_; rintro e w7 ⟨v7, rfl, ho7, hb7⟩; have S_z_7 := hid (S_z_6.out.below hb7); have S_bb_7 := hid ho7.sl; clear ho7; have HZ7 := hid hb7; have HC7 := hid (HC6.out.trans (hb7.mono HC6.out.size)); have HB7 := hid (HB6.out.trans (hb7.mono HB6.out.size)); clear hb7)
        | (have _u := HB5; clear _u; go_at_call 12; with_reducible refine (G6.out _ _ S_ab_5.out).mono ?_; rintro e w6 ⟨v6, rfl, ho6, hb6⟩; have S_b_6 := hid (S_b_5.out.below hb6); have S_z_6 := hid ho6.sl; have O_z := hid ho6; have HQ6 := hid hb6; clear ho6; have HC6 := hid (HC5.out.trans (hb6.mono HC5.out.size)); have HB6 := hid (HB5.out.trans (hb6.mono HB5.out.size)); clear hb6)
        | (have _u := HB4; clear _u; at_builtin; go_loud (refine wpList_guarded (by rfl) ?_; refine wpList_app _ rfl _ _ 22 rfl .i64 w3.heap.size 3 8 Try.underlying22 Try.infoI64 _ a b rfl O_t.out _ rfl S_b_4.out (by have := HN1.out; have := HN2.out; unfold maxLen; omega) (by have := HN1.out; have := HN2.out; omega) HQ4.out.size ?_); intro v5 w5 ho5 hg5 hb5 hn5; clear hg5 hn5; have S_b_5 := hid (S_b_3.out.below (HQ4.out.trans hb5)); have S_ab_5 := hid ho5.sl; have HC5 := hid (HC3.out.trans ((HQ4.out.trans hb5).mono HC3.out.size)); have HB5 := hid (HB3.out.trans ((HQ4.out.trans hb5).mono HB3.out.size)); clear hb5 ho5)
        | (have _u := HB3; clear _u; go_at_call 8; with_reducible refine (G4.out _ _ S_a_3.out).mono ?_; rintro e w4 ⟨v4, rfl, ho4, hb4⟩; have S_b_4 := hid (S_b_3.out.below hb4); have O_t := hid ho4; have HQ4 := hid hb4; clear ho4; have HB4 := hid (HB3.out.trans (hb4.mono HB3.out.size)); clear hb4)
        | (have _u := HB2; clear _u; go_at_call 9; refine (keepInts _ _ A A _ S_y_2.out S_x_2.out).mono ?_; rw [eqL_self]; rintro e w3 ⟨rfl, n3, hw3⟩; have hb3 : Below w2.heap.size w2 w3 := (by rw [hw3]; exact below_drewN n3); clear hw3; have S_a_3 := hid (S_a_2.out.below hb3); have S_b_3 := hid (S_b_2.out.below hb3); have HC3 := hid (HC2.out.trans (hb3.mono HC2.out.size)); have HB3 := hid (HB2.out.trans (hb3.mono HB2.out.size)); clear hb3)
        | (have _u := HB1; clear _u; go_at_call 12; with_reducible refine (G2.out _ _ S_x_1.out).mono ?_; rintro e w2 ⟨v2, rfl, ho2, hb2⟩; have S_a_2 := hid (S_a_1.out.below hb2); have S_b_2 := hid (S_b_1.out.below hb2); have S_x_2 := hid (S_x_1.out.below hb2); have S_y_2 := hid ho2.sl; clear ho2; have HC2 := hid hb2; have HB2 := hid (HB1.out.trans (hb2.mono HB1.out.size)); clear hb2)
        | (have _u := HB0; clear _u; go_at_call 12; with_reducible refine (G1.out _ _ HS1.out).mono ?_; rintro e w1 ⟨v1, rfl, ho1, hb1⟩; have S_a_1 := hid (HS1.out.below hb1); have S_b_1 := hid (HS2.out.below hb1); have S_x_1 := hid ho1.sl; have O_x := hid ho1; have HQ1 := hid hb1; clear ho1; have HB1 := hid (HB0.out.trans (hb1.mono HB0.out.size)); clear hb1))
      go_ret
      exact ⟨rfl, HB10.out⟩
    · have hl : 300 < n2 := by omega
      clear HO HA hl2
      go_enter Try.func4, Try.ntmps4
      go_wp2
      go_ret
      exact ⟨rfl, Below.refl _ _⟩
  · have hl : 300 < n1 := by omega
    clear HO HA hl1
    go_enter Try.func4, Try.ntmps4
    go_wp2
    go_ret
    exact ⟨rfl, Below.refl _ _⟩
end Go.Proofs.Ytdncmdpacidgmaa
