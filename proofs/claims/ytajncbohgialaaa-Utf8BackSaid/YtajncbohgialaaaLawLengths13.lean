/- Walk of law13's Utf8Lengths, out of what is asked of package utf8. -/
import Derived.Test.YtajncbohgialaaaU8Ok
import Derived.Test.YtajncbohgialaaaTwin
import Derived.Test.YtajncbohgialaaaRepNum
namespace Go.Proofs.Ytajncbohgialaaa
theorem Sl.cap {k : IntKind} {w : World} {a : Option Addr} {m c : Nat} {xs : List Int} (h : Sl k w (.slice a m c) xs) : m ≤ c := by
  obtain ⟨a2, c2, hv, hl, -, -⟩ := h
  injection hv with e1 e2 e3
  omega
theorem Sl.cut {k : IntKind} {w : World} {a : Option Addr} {m c j : Nat} {xs : List Int} (h : Sl k w (.slice a m c) xs) (hj : j ≤ m) : Sl k w (.slice a j c) (xs.take j) := by
  obtain ⟨a2, c2, hv, hl, hm, h⟩ := h
  injection hv with e1 e2 e3
  subst e1 e2 e3
  have hlen : (xs.take j).length = j := by rw [List.length_take]; omega
  refine ⟨a, c, by rw [hlen], by rw [hlen]; omega, hm, ?_⟩
  rcases h with h | ⟨b, o, ha, hb, hc⟩
  · exact .inl h
  · refine .inr ⟨b, o, ha, fun h0 => hb (by omega), fun i hi => ?_⟩
    rw [hlen] at hi
    rw [hc i (by omega)]
    simp [hi]
/-- fewer bytes than a scalar has are no scalar's -/
theorem one_short {c : Int} (h : scalarB c = true) {j : Nat} (hj : j < (u8enc c).length) : (u8one ((u8enc c).take j)).2 = 0 := by
  rcases Nat.eq_zero_or_pos (u8one ((u8enc c).take j)).2 with h0 | h0
  · exact h0
  · obtain ⟨h1, h2, h3⟩ := enc_one (fun x hx => u8enc_u8 h x (List.mem_of_mem_take hx)) (show u8one ((u8enc c).take j) = ((u8one ((u8enc c).take j)).1, (u8one ((u8enc c).take j)).2) from rfl) (by omega)
    have e1 := one_enc h []
    rw [List.append_nil] at e1
    have e3 : u8enc c = u8enc (u8one ((u8enc c).take j)).1 ++ (((u8enc c).take j).drop (u8one ((u8enc c).take j)).2 ++ (u8enc c).drop j) := by
      rw [h2, ← List.append_assoc, List.take_append_drop, List.take_append_drop]
    have e2 := one_enc h1 (((u8enc c).take j).drop (u8one ((u8enc c).take j)).2 ++ (u8enc c).drop j)
    rw [← e3, e1] at e2
    have e4 := congrArg Prod.snd e2
    simp only at e4
    have e5 := congrArg List.length h2
    rw [List.length_take, List.length_take] at e5
    rw [List.length_take] at h3
    omega
theorem get_short {c : Int} (h : scalarB c = true) {j : Nat} (h0 : 0 < j) (hj : j < (u8enc c).length) : getU ((u8enc c).take j) = .inr 0 := by
  have hne : (u8enc c).take j ≠ [] := fun e => by
    have := congrArg List.length e
    rw [List.length_take, List.length_nil] at this
    omega
  rw [getU_step hne, if_pos (one_short h hj)]
theorem put_single {c : Int} (h : scalarB c = true) : putU [c] = .inl (u8enc c) := by simp [putU, h]
theorem put_none {c : Int} (h : scalarB c = false) : putU [c] = .inr 0 := by simp [putU, h]
open Go.RowKit

set_option maxRecDepth 10000 in
set_option maxHeartbeats 4000000 in
theorem walkLengths13 (HP : UPutOk) (HG : UGetOk) (HO : UOneOk) (c0 : Int) (w : World) :
    Calls Try.prog 6 #[.int .i64 c0] w fun e w' => e = .returned (.bool true) ∧ Below w.heap.size w w' := by
  obtain ⟨c, hc, hc1, hc2⟩ := ix_rem c0 1114112 (by omega) (by omega)
  have HW := hid (fun w => lawWakes13 HP HG w)
  have HB0 := hid (Below.refl w.heap.size w)
  have hci : [c].all inI = true := by rw [List.all_cons, List.all_nil, inI_of (by omega)]; rfl
  have G1 := hid (fun v w h => HP v [c] w h hci (by simp))
  by_cases h1 : 55296 ≤ c ∧ c ≤ 57343
  · rw [put_none (scalar_f (by omega))] at G1
    simp only [outAt, outE, outL] at G1
    have g1 := h1.1
    have g2 := h1.2
    clear HP HG HO hci h1
    go_enter Try.func6, Try.ntmps6
    go_wp2_with (first
      | (have _u := HB1; clear _u; go_at_call 17; refine (HW.out _).mono ?_; rintro e w2 ⟨rfl, hb2⟩; have HB2 := hid (HB1.out.trans (hb2.mono HB1.out.size)); clear hb2)
      | (have _u := HB0; clear _u; go_at_call 9; refine (G1.out _ _ (lit_sl (by first | simp | rfl) rfl rfl (by simp))).mono ?_; rintro e w1 ⟨v1, rfl, ho1, hb1⟩; replace hb1 := ((Below.refl w.heap.size w).alloc (Nat.le_refl _) _).trans (hb1.mono (by first | (simp; done) | (simp; omega))); obtain ⟨a1, c1, hv1⟩ := ho1.form; simp only [List.length_nil] at hv1; subst hv1; clear ho1; have HB1 := hid (HB0.out.trans (hb1.mono HB0.out.size)); clear hb1))
    go_ret
    exact ⟨rfl, HB2.out⟩
  have hs : scalarB c = true := scalar_t (by omega)
  have hl := enc_lens c
  rw [put_single hs] at G1
  have G3 := hid (fun v w h => HO v (u8enc c ++ [255]) w h (fun x hx => by
    rcases List.mem_append.1 hx with hx | hx
    · exact u8enc_u8 hs x hx
    · simp at hx; omega) (by rw [List.length_append]; have := (u8enc_len c).2; simp; omega))
  rw [one_enc hs] at G3
  by_cases k1 : c ≤ 127
  · have HM := hid (show 1 = (u8enc c).length from (hl.1.2 (by omega)).symm)
    have G2 := hid (fun v w h => HG v ((u8enc c).take 0) w h (fun x hx => u8enc_u8 hs x (List.mem_of_mem_take hx)) (by rw [List.length_take]; omega))
    rw [show getU ((u8enc c).take 0) = .inl [] from rfl] at G2
    rw [← HM.out] at G3
    simp only [outAt, outE, outL] at G1 G2
    have g1 : ¬ 55296 ≤ c := by omega
    clear HP HG HO hci h1 hl hs
    go_enter Try.func6, Try.ntmps6
    go_wp2_with (first
      | (have _u := HB5; clear _u; go_at_call 17; refine (HW.out _).mono ?_; rintro e w6 ⟨rfl, hb6⟩; have HB6 := hid (HB5.out.trans (hb6.mono HB5.out.size)); clear hb6)
      | (have _u := HB4; clear _u; go_at_call 11; with_reducible refine (G3.out _ _ S_q_4.out).mono ?_; rintro e w5 ⟨rfl, hb5⟩; have HB5 := hid (HB4.out.trans (hb5.mono HB4.out.size)); clear hb5)
      | (have _u := HB3; clear _u; at_builtin; refine wpList_app _ rfl _ _ 23 rfl .u8 w2.heap.size 5 1 Try.underlying23 Try.infoU8 _ (u8enc c) [255] rfl (O_r.out.alloc _) _ rfl (one_sl (by first | simp | rfl)) (by have := HM.out; unfold maxLen; simp; omega) (by have := HM.out; simp; omega) (by have := HQ3.out.size; simp; omega) ?_; intro v4 w4 ho4 hg4 hb4 hn4; clear hg4 hn4; have S_q_4 := hid ho4.sl; have HB4 := hid (HB2.out.trans (((HQ3.out.alloc HQ3.out.size _).trans hb4).mono HB2.out.size)); clear hb4 ho4)
      | (have _u := HB2; clear _u; go_at_call 8; with_reducible refine (keepTwin _ (u8enc c) _ S_b_2.out (by have := HM.out; omega)).mono ?_; rintro e w3 ⟨v3, rfl, ho3, hb3⟩; have O_r := hid ho3; have HQ3 := hid hb3; clear ho3; have HB3 := hid (HB2.out.trans (hb3.mono HB2.out.size)); clear hb3)
      | (have _u := HB1; clear _u; go_at_call 10; with_reducible refine (G2.out _ _ S_p_1.out).mono ?_; rintro e w2 ⟨v2, rfl, ho2, hb2⟩; have S_b_2 := hid (S_b_1.out.below hb2); clear ho2; have HB2 := hid (HB1.out.trans (hb2.mono HB1.out.size)); clear hb2)
      | (have _u := HB0; clear _u; go_at_call 9; refine (G1.out _ _ (lit_sl (by first | simp | rfl) rfl rfl (by simp))).mono ?_; rintro e w1 ⟨v1, rfl, ho1, hb1⟩; replace hb1 := ((Below.refl w.heap.size w).alloc (Nat.le_refl _) _).trans (hb1.mono (by first | (simp; done) | (simp; omega))); obtain ⟨a1, c1, hv1⟩ := ho1.form; rw [← HM.out] at hv1; subst hv1; have S_b_1 := hid ho1; clear ho1; have hcap : 1 ≤ c1 := Sl.cap S_b_1.out; have S_p_1 := hid (Sl.cut (j := 0) S_b_1.out (by omega)); have HB1 := hid (HB0.out.trans (hb1.mono HB0.out.size)); clear hb1))
    go_ret
    exact ⟨rfl, HB6.out⟩
  by_cases k2 : c ≤ 2047
  · have HM := hid (show 2 = (u8enc c).length from (hl.2.1.2 (by omega)).symm)
    have G2 := hid (fun v w h => HG v ((u8enc c).take 1) w h (fun x hx => u8enc_u8 hs x (List.mem_of_mem_take hx)) (by rw [List.length_take]; omega))
    rw [get_short hs (by omega) (by have := HM.out; omega)] at G2
    rw [← HM.out] at G3
    simp only [outAt, outE, outL] at G1 G2
    have g1 : ¬ 55296 ≤ c := by omega
    clear HP HG HO hci h1 hl hs
    go_enter Try.func6, Try.ntmps6
    go_wp2_with (first
      | (have _u := HB5; clear _u; go_at_call 17; refine (HW.out _).mono ?_; rintro e w6 ⟨rfl, hb6⟩; have HB6 := hid (HB5.out.trans (hb6.mono HB5.out.size)); clear hb6)
      | (have _u := HB4; clear _u; go_at_call 11; with_reducible refine (G3.out _ _ S_q_4.out).mono ?_; rintro e w5 ⟨rfl, hb5⟩; have HB5 := hid (HB4.out.trans (hb5.mono HB4.out.size)); clear hb5)
      | (have _u := HB3; clear _u; at_builtin; refine wpList_app _ rfl _ _ 23 rfl .u8 w2.heap.size 5 1 Try.underlying23 Try.infoU8 _ (u8enc c) [255] rfl (O_r.out.alloc _) _ rfl (one_sl (by first | simp | rfl)) (by have := HM.out; unfold maxLen; simp; omega) (by have := HM.out; simp; omega) (by have := HQ3.out.size; simp; omega) ?_; intro v4 w4 ho4 hg4 hb4 hn4; clear hg4 hn4; have S_q_4 := hid ho4.sl; have HB4 := hid (HB2.out.trans (((HQ3.out.alloc HQ3.out.size _).trans hb4).mono HB2.out.size)); clear hb4 ho4)
      | (have _u := HB2; clear _u; go_at_call 8; with_reducible refine (keepTwin _ (u8enc c) _ S_b_2.out (by have := HM.out; omega)).mono ?_; rintro e w3 ⟨v3, rfl, ho3, hb3⟩; have O_r := hid ho3; have HQ3 := hid hb3; clear ho3; have HB3 := hid (HB2.out.trans (hb3.mono HB2.out.size)); clear hb3)
      | (have _u := HB1; clear _u; go_at_call 10; with_reducible refine (G2.out _ _ S_p_1.out).mono ?_; rintro e w2 ⟨v2, rfl, ho2, hb2⟩; have S_b_2 := hid (S_b_1.out.below hb2); clear ho2; have HB2 := hid (HB1.out.trans (hb2.mono HB1.out.size)); clear hb2)
      | (have _u := HB0; clear _u; go_at_call 9; refine (G1.out _ _ (lit_sl (by first | simp | rfl) rfl rfl (by simp))).mono ?_; rintro e w1 ⟨v1, rfl, ho1, hb1⟩; replace hb1 := ((Below.refl w.heap.size w).alloc (Nat.le_refl _) _).trans (hb1.mono (by first | (simp; done) | (simp; omega))); obtain ⟨a1, c1, hv1⟩ := ho1.form; rw [← HM.out] at hv1; subst hv1; have S_b_1 := hid ho1; clear ho1; have hcap : 2 ≤ c1 := Sl.cap S_b_1.out; have S_p_1 := hid (Sl.cut (j := 1) S_b_1.out (by omega)); have HB1 := hid (HB0.out.trans (hb1.mono HB0.out.size)); clear hb1))
    go_ret
    exact ⟨rfl, HB6.out⟩
  by_cases k3 : c ≤ 65535
  · have HM := hid (show 3 = (u8enc c).length from (hl.2.2.1.2 (by omega)).symm)
    have G2 := hid (fun v w h => HG v ((u8enc c).take 2) w h (fun x hx => u8enc_u8 hs x (List.mem_of_mem_take hx)) (by rw [List.length_take]; omega))
    rw [get_short hs (by omega) (by have := HM.out; omega)] at G2
    rw [← HM.out] at G3
    simp only [outAt, outE, outL] at G1 G2
    by_cases g1 : 55296 ≤ c
    · have g2 : ¬ c ≤ 57343 := by omega
      clear HP HG HO hci h1 hl hs
      go_enter Try.func6, Try.ntmps6
      go_wp2_with (first
        | (have _u := HB5; clear _u; go_at_call 17; refine (HW.out _).mono ?_; rintro e w6 ⟨rfl, hb6⟩; have HB6 := hid (HB5.out.trans (hb6.mono HB5.out.size)); clear hb6)
        | (have _u := HB4; clear _u; go_at_call 11; with_reducible refine (G3.out _ _ S_q_4.out).mono ?_; rintro e w5 ⟨rfl, hb5⟩; have HB5 := hid (HB4.out.trans (hb5.mono HB4.out.size)); clear hb5)
        | (have _u := HB3; clear _u; at_builtin; refine wpList_app _ rfl _ _ 23 rfl .u8 w2.heap.size 5 1 Try.underlying23 Try.infoU8 _ (u8enc c) [255] rfl (O_r.out.alloc _) _ rfl (one_sl (by first | simp | rfl)) (by have := HM.out; unfold maxLen; simp; omega) (by have := HM.out; simp; omega) (by have := HQ3.out.size; simp; omega) ?_; intro v4 w4 ho4 hg4 hb4 hn4; clear hg4 hn4; have S_q_4 := hid ho4.sl; have HB4 := hid (HB2.out.trans (((HQ3.out.alloc HQ3.out.size _).trans hb4).mono HB2.out.size)); clear hb4 ho4)
        | (have _u := HB2; clear _u; go_at_call 8; with_reducible refine (keepTwin _ (u8enc c) _ S_b_2.out (by have := HM.out; omega)).mono ?_; rintro e w3 ⟨v3, rfl, ho3, hb3⟩; have O_r := hid ho3; have HQ3 := hid hb3; clear ho3; have HB3 := hid (HB2.out.trans (hb3.mono HB2.out.size)); clear hb3)
        | (have _u := HB1; clear _u; go_at_call 10; with_reducible refine (G2.out _ _ S_p_1.out).mono ?_; rintro e w2 ⟨v2, rfl, ho2, hb2⟩; have S_b_2 := hid (S_b_1.out.below hb2); clear ho2; have HB2 := hid (HB1.out.trans (hb2.mono HB1.out.size)); clear hb2)
        | (have _u := HB0; clear _u; go_at_call 9; refine (G1.out _ _ (lit_sl (by first | simp | rfl) rfl rfl (by simp))).mono ?_; rintro e w1 ⟨v1, rfl, ho1, hb1⟩; replace hb1 := ((Below.refl w.heap.size w).alloc (Nat.le_refl _) _).trans (hb1.mono (by first | (simp; done) | (simp; omega))); obtain ⟨a1, c1, hv1⟩ := ho1.form; rw [← HM.out] at hv1; subst hv1; have S_b_1 := hid ho1; clear ho1; have hcap : 3 ≤ c1 := Sl.cap S_b_1.out; have S_p_1 := hid (Sl.cut (j := 2) S_b_1.out (by omega)); have HB1 := hid (HB0.out.trans (hb1.mono HB0.out.size)); clear hb1))
      go_ret
      exact ⟨rfl, HB6.out⟩
    · clear HP HG HO hci h1 hl hs
      go_enter Try.func6, Try.ntmps6
      go_wp2_with (first
        | (have _u := HB5; clear _u; go_at_call 17; refine (HW.out _).mono ?_; rintro e w6 ⟨rfl, hb6⟩; have HB6 := hid (HB5.out.trans (hb6.mono HB5.out.size)); clear hb6)
        | (have _u := HB4; clear _u; go_at_call 11; with_reducible refine (G3.out _ _ S_q_4.out).mono ?_; rintro e w5 ⟨rfl, hb5⟩; have HB5 := hid (HB4.out.trans (hb5.mono HB4.out.size)); clear hb5)
        | (have _u := HB3; clear _u; at_builtin; refine wpList_app _ rfl _ _ 23 rfl .u8 w2.heap.size 5 1 Try.underlying23 Try.infoU8 _ (u8enc c) [255] rfl (O_r.out.alloc _) _ rfl (one_sl (by first | simp | rfl)) (by have := HM.out; unfold maxLen; simp; omega) (by have := HM.out; simp; omega) (by have := HQ3.out.size; simp; omega) ?_; intro v4 w4 ho4 hg4 hb4 hn4; clear hg4 hn4; have S_q_4 := hid ho4.sl; have HB4 := hid (HB2.out.trans (((HQ3.out.alloc HQ3.out.size _).trans hb4).mono HB2.out.size)); clear hb4 ho4)
        | (have _u := HB2; clear _u; go_at_call 8; with_reducible refine (keepTwin _ (u8enc c) _ S_b_2.out (by have := HM.out; omega)).mono ?_; rintro e w3 ⟨v3, rfl, ho3, hb3⟩; have O_r := hid ho3; have HQ3 := hid hb3; clear ho3; have HB3 := hid (HB2.out.trans (hb3.mono HB2.out.size)); clear hb3)
        | (have _u := HB1; clear _u; go_at_call 10; with_reducible refine (G2.out _ _ S_p_1.out).mono ?_; rintro e w2 ⟨v2, rfl, ho2, hb2⟩; have S_b_2 := hid (S_b_1.out.below hb2); clear ho2; have HB2 := hid (HB1.out.trans (hb2.mono HB1.out.size)); clear hb2)
        | (have _u := HB0; clear _u; go_at_call 9; refine (G1.out _ _ (lit_sl (by first | simp | rfl) rfl rfl (by simp))).mono ?_; rintro e w1 ⟨v1, rfl, ho1, hb1⟩; replace hb1 := ((Below.refl w.heap.size w).alloc (Nat.le_refl _) _).trans (hb1.mono (by first | (simp; done) | (simp; omega))); obtain ⟨a1, c1, hv1⟩ := ho1.form; rw [← HM.out] at hv1; subst hv1; have S_b_1 := hid ho1; clear ho1; have hcap : 3 ≤ c1 := Sl.cap S_b_1.out; have S_p_1 := hid (Sl.cut (j := 2) S_b_1.out (by omega)); have HB1 := hid (HB0.out.trans (hb1.mono HB0.out.size)); clear hb1))
      go_ret
      exact ⟨rfl, HB6.out⟩
  have HM := hid (show 4 = (u8enc c).length from (hl.2.2.2.2 (by omega)).symm)
  have G2 := hid (fun v w h => HG v ((u8enc c).take 3) w h (fun x hx => u8enc_u8 hs x (List.mem_of_mem_take hx)) (by rw [List.length_take]; omega))
  rw [get_short hs (by omega) (by have := HM.out; omega)] at G2
  rw [← HM.out] at G3
  simp only [outAt, outE, outL] at G1 G2
  have g1 : 55296 ≤ c := by omega
  have g2 : ¬ c ≤ 57343 := by omega
  clear HP HG HO hci h1 hl hs
  go_enter Try.func6, Try.ntmps6
  go_wp2_with (first
    | (have _u := HB5; clear _u; go_at_call 17; refine (HW.out _).mono ?_; rintro e w6 ⟨rfl, hb6⟩; have HB6 := hid (HB5.out.trans (hb6.mono HB5.out.size)); clear hb6)
    | (have _u := HB4; clear _u; go_at_call 11; with_reducible refine (G3.out _ _ S_q_4.out).mono ?_; rintro e w5 ⟨rfl, hb5⟩; have HB5 := hid (HB4.out.trans (hb5.mono HB4.out.size)); clear hb5)
    | (have _u := HB3; clear _u; at_builtin; refine wpList_app _ rfl _ _ 23 rfl .u8 w2.heap.size 5 1 Try.underlying23 Try.infoU8 _ (u8enc c) [255] rfl (O_r.out.alloc _) _ rfl (one_sl (by first | simp | rfl)) (by have := HM.out; unfold maxLen; simp; omega) (by have := HM.out; simp; omega) (by have := HQ3.out.size; simp; omega) ?_; intro v4 w4 ho4 hg4 hb4 hn4; clear hg4 hn4; have S_q_4 := hid ho4.sl; have HB4 := hid (HB2.out.trans (((HQ3.out.alloc HQ3.out.size _).trans hb4).mono HB2.out.size)); clear hb4 ho4)
    | (have _u := HB2; clear _u; go_at_call 8; with_reducible refine (keepTwin _ (u8enc c) _ S_b_2.out (by have := HM.out; omega)).mono ?_; rintro e w3 ⟨v3, rfl, ho3, hb3⟩; have O_r := hid ho3; have HQ3 := hid hb3; clear ho3; have HB3 := hid (HB2.out.trans (hb3.mono HB2.out.size)); clear hb3)
    | (have _u := HB1; clear _u; go_at_call 10; with_reducible refine (G2.out _ _ S_p_1.out).mono ?_; rintro e w2 ⟨v2, rfl, ho2, hb2⟩; have S_b_2 := hid (S_b_1.out.below hb2); clear ho2; have HB2 := hid (HB1.out.trans (hb2.mono HB1.out.size)); clear hb2)
    | (have _u := HB0; clear _u; go_at_call 9; refine (G1.out _ _ (lit_sl (by first | simp | rfl) rfl rfl (by simp))).mono ?_; rintro e w1 ⟨v1, rfl, ho1, hb1⟩; replace hb1 := ((Below.refl w.heap.size w).alloc (Nat.le_refl _) _).trans (hb1.mono (by first | (simp; done) | (simp; omega))); obtain ⟨a1, c1, hv1⟩ := ho1.form; rw [← HM.out] at hv1; subst hv1; have S_b_1 := hid ho1; clear ho1; have hcap : 4 ≤ c1 := Sl.cap S_b_1.out; have S_p_1 := hid (Sl.cut (j := 3) S_b_1.out (by omega)); have HB1 := hid (HB0.out.trans (hb1.mono HB0.out.size)); clear hb1))
  go_ret
  exact ⟨rfl, HB6.out⟩
end Go.Proofs.Ytajncbohgialaaa
