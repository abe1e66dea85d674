/- Several texts in one: LawCut17. -/
import Derived.Test.YtkjhbfcblnbkfaaPk17
import Derived.Test.YtkjhbfcblnbkfaaPk16
import Derived.Test.YtkjhbfcblnbkfaaPk1
/-! LawCut17 -/
namespace Go.Proofs.Ytkjhbfcblnbkfaa
open Go.RowKit

theorem ixn (x m : Int) (h0 : 0 < m) (h1 : m ≤ 1000000) : ∃ K : Nat, wrap64 ((IntKind.u64.wrap x).tmod m) = (K : Int) ∧ (K : Int) < m := by
  obtain ⟨a, b⟩ := ixr x m h0 h1
  exact ⟨(wrap64 ((IntKind.u64.wrap x).tmod m)).toNat, by omega, by omega⟩
/-- the tokens of a part -/
theorem tok_take {b : List Int} {l : List (Int × Int)} (h : tokS b = .inl l) {k : Nat} (hk : k ≤ b.length) : (∃ m, tokS (b.take k) = .inl m ∧ m.length ≤ l.length ∧ l.take m.length = m) ∨ ∃ i, tokS (b.take k) = .inr (i, 2) ∧ i < k := by
  unfold tokS at h ⊢
  cases ht : tkF b.length rd0 b with
  | inr x => rw [ht] at h; cases h
  | inl x =>
    obtain ⟨l', s⟩ := x
    rw [ht] at h
    cases h
    rcases tkF_take b.length rd0 s b _ k (Nat.le_refl _) ht (b.take k).length (by rw [List.length_take]; omega) hk with ⟨m, z, h1, h2, h3⟩ | ⟨i, h1, h2⟩
    · rw [h1]; exact .inl ⟨m, rfl, h2, h3⟩
    · rw [h1]; exact .inr ⟨i, rfl, h2⟩
theorem tok_more {b m : List Int} {i : Nat} {e : Int} (h : tokS b = .inr (i, e)) (he : e ≠ 2) : tokS (b ++ m) = .inr (i, e) := by
  unfold tokS at h ⊢
  cases ht : tkF b.length rd0 b with
  | inl x => rw [ht] at h; cases h
  | inr x =>
    rw [ht] at h
    cases h
    rw [tkF_more b.length rd0 b m i e (Nat.le_refl _) ht he _ (Nat.le_refl _)]
theorem tok_at {b : List Int} {i : Nat} {e : Int} (h : tokS b = .inr (i, e)) : i < b.length ∧ e ≠ 0 := by
  unfold tokS at h
  cases ht : tkF b.length rd0 b with
  | inl x => rw [ht] at h; cases h
  | inr x =>
    rw [ht] at h
    cases h
    exact ⟨tkF_at _ _ _ _ _ (Nat.le_refl _) ht, tkF_err _ _ _ _ _ ht⟩

set_option maxRecDepth 10000 in
set_option maxHeartbeats 4000000 in
theorem walkCut17 (HT : ShTokOk) (HE : ShEscOk) (v1 v2 : Value) (b m : List Int) (cut : Int) (w : World) (h1 : Sl .u8 w v1 b) (h2 : Sl .u8 w v2 m) (hu : U8 b) (hum : U8 m) :
    Calls Try.prog 4 #[v1, v2, .int .i64 cut] w fun e w' => e = .returned (.bool true) ∧ Below w.heap.size w w' := by
  have HS_b := hid h1
  have ml_b := h1.len
  obtain ⟨a_b, c_b, hv_b⟩ := h1.form
  obtain ⟨nb, hn_b⟩ : ∃ n, n = b.length := ⟨_, rfl⟩
  rw [← hn_b] at hv_b ml_b
  subst hv_b
  have HN_b := hid hn_b
  clear hn_b h1
  have HS_m := hid h2
  have ml_m := h2.len
  obtain ⟨a_m, c_m, hv_m⟩ := h2.form
  obtain ⟨nm, hn_m⟩ : ∃ n, n = m.length := ⟨_, rfl⟩
  rw [← hn_m] at hv_m ml_m
  subst hv_m
  have HN_m := hid hn_m
  clear hn_m h2
  have HW := hid (fun w => lawWakes17 HT HE w)
  have HB0 := hid (Below.refl w.heap.size w)
  by_cases hl_nb : nb ≤ 400
  · by_cases hl_nm : nm ≤ 400
    · obtain ⟨c, hc, hc0⟩ := ixn cut ((nb : Int) + 1) (by omega) (by omega)
      have HKK := hid hc
      have hcb : c ≤ b.length := by have := HN_b.out; omega
      have hcn : c ≤ nb := by omega
      have G1 := hid (fun v w h => HT v b w h hu (by have := HN_b.out; omega))
      have G2 := hid (fun v w h => HT v (b.take c) w h (hu.take c) (by rw [List.length_take]; have := HN_b.out; omega))
      cases ht : tokS b with
      | inl L =>
        rw [ht] at G1
        obtain ⟨nl, hnl⟩ : ∃ n, n = L.length := ⟨_, rfl⟩
        have HLL := hid hnl
        rcases tok_take ht hcb with ⟨K, hk, hk1, hk2⟩ | ⟨i, hk, hk1⟩
        · rw [hk] at G2
          obtain ⟨nk, hnk⟩ : ∃ n, n = K.length := ⟨_, rfl⟩
          have HLK := hid hnk
          have HLE := hid (show nk ≤ L.length by omega)
          have HTK := hid (show L.take nk = K by rw [hnk]; exact hk2)
          have hle : (nk : Int) ≤ (nl : Int) := by omega
          simp only [tkL, tkAt, tkE] at G1 G2
          clear HT HE hu hum ht hk hk1 hk2 hnk hnl hcb
          go_enter Try.func4, Try.ntmps4
          go_wp2_with (first
            | (have _u := HB3; clear _u; go_at_call 10; refine (HW.out _).mono ?_; rintro e w4 ⟨rfl, hb4⟩; have HB4 := hid (HB3.out.trans (hb4.mono HB3.out.size)); clear hb4)
            | (have _u := HB2; clear _u; go_at_call 11; refine (keepTokens _ _ K K _ S_k_2.out S_cut_2.out).mono ?_; rw [eqT_self]; rintro e w3 ⟨rfl, n3, hw3⟩; have hb3 : Below w2.heap.size w2 w3 := (by rw [hw3]; exact below_drewN n3); clear hw3; have HB3 := hid (HB2.out.trans (hb3.mono HB2.out.size)); clear hb3)
            | (have _u := HB1; clear _u; go_at_call 9; with_reducible refine (G2.out _ _ HVC.out).mono ?_; rintro e w2 ⟨v2, rfl, ho2, hb2⟩; obtain ⟨ak, ck, hvk⟩ := ho2.form; rw [← HLK.out] at hvk; subst hvk; obtain ⟨hc1, hc2, hc3⟩ := cut_tok (S_l_1.out.below hb2) (show nk ≤ L.length from by have := HLE.out; omega); rw [HTK.out] at hc3; have S_cut_2 := hid hc3; have S_k_2 := hid ho2; clear ho2; have HB2 := hid (HB1.out.trans (hb2.mono HB1.out.size)); clear hb2)
            | (have _u := HB1; clear _u; (with_reducible refine at_to ?_); go_loud (refine wpList_to _ rfl _ _ 25 rfl .u8 5 1 Try.underlying25 Try.infoU8 _ b rfl S_b_1.out .i64 (wrap64 ((IntKind.u64.wrap cut).tmod ((nb : Int) + 1))) rfl (by rw [HKK.out]; exact Int.natCast_nonneg _) (by rw [HKK.out, ← HN_b.out]; omega) ?_); rw [HKK.out, Int.toNat_natCast]; intro vc hvc; have HVC := hid hvc; clear hvc)
            | (have _u := HB0; clear _u; go_at_call 9; with_reducible refine (G1.out _ _ HS_b.out).mono ?_; rintro e w1 ⟨v1, rfl, ho1, hb1⟩; obtain ⟨al, cl, hvl⟩ := ho1.form; rw [← HLL.out] at hvl; subst hvl; have S_b_1 := hid (HS_b.out.below hb1); have S_l_1 := hid ho1; clear ho1; have HB1 := hid (HB0.out.trans (hb1.mono HB0.out.size)); clear hb1))
          go_ret
          exact ⟨rfl, HB4.out⟩
        · rw [hk] at G2
          have hik : (i : Int) < (c : Int) := by omega
          simp only [tkL, tkAt, tkE] at G1 G2
          generalize L = L2 at G1
          clear HT HE hu hum ht hk hk1 hnl HLL hcb
          go_enter Try.func4, Try.ntmps4
          go_wp2_with (first
            | (have _u := HB2; clear _u; go_at_call 10; refine (HW.out _).mono ?_; rintro e w3 ⟨rfl, hb3⟩; have HB3 := hid (HB2.out.trans (hb3.mono HB2.out.size)); clear hb3)
            | (have _u := HB1; clear _u; go_at_call 9; with_reducible refine (G2.out _ _ HVC.out).mono ?_; rintro e w2 ⟨v2, rfl, ho2, hb2⟩; obtain ⟨a2, c2, hv2⟩ := ho2.form; simp only [List.length_nil] at hv2; subst hv2; clear ho2; have HB2 := hid (HB1.out.trans (hb2.mono HB1.out.size)); clear hb2)
            | (have _u := HB1; clear _u; (with_reducible refine at_to ?_); go_loud (refine wpList_to _ rfl _ _ 25 rfl .u8 5 1 Try.underlying25 Try.infoU8 _ b rfl S_b_1.out .i64 (wrap64 ((IntKind.u64.wrap cut).tmod ((nb : Int) + 1))) rfl (by rw [HKK.out]; exact Int.natCast_nonneg _) (by rw [HKK.out, ← HN_b.out]; omega) ?_); rw [HKK.out, Int.toNat_natCast]; intro vc hvc; have HVC := hid hvc; clear hvc)
            | (have _u := HB0; clear _u; go_at_call 9; with_reducible refine (G1.out _ _ HS_b.out).mono ?_; rintro e w1 ⟨v1, rfl, ho1, hb1⟩; have S_b_1 := hid (HS_b.out.below hb1); clear ho1; have HB1 := hid (HB0.out.trans (hb1.mono HB0.out.size)); clear hb1))
          go_ret
          exact ⟨rfl, HB3.out⟩
      | inr y =>
        obtain ⟨i, e⟩ := y
        obtain ⟨hi1, he0⟩ := tok_at ht
        rw [ht] at G1
        generalize tkL (tokS (b.take c)) = K2 at G2
        generalize tkAt (tokS (b.take c)) = KA at G2
        generalize tkE (tokS (b.take c)) = KE at G2
        simp only [tkL, tkAt, tkE] at G1
        have hin : (i : Int) < (nb : Int) := by have := HN_b.out; omega
        by_cases he2 : e = 2
        · subst he2
          clear HT HE hu hum ht hi1 he0 hcb
          go_enter Try.func4, Try.ntmps4
          go_wp2_with (first
            | (have _u := HB2; clear _u; go_at_call 10; refine (HW.out _).mono ?_; rintro e w3 ⟨rfl, hb3⟩; have HB3 := hid (HB2.out.trans (hb3.mono HB2.out.size)); clear hb3)
            | (have _u := HB1; clear _u; go_at_call 9; with_reducible refine (G2.out _ _ HVC.out).mono ?_; rintro e w2 ⟨v2, rfl, ho2, hb2⟩; clear ho2; have HB2 := hid (HB1.out.trans (hb2.mono HB1.out.size)); clear hb2)
            | (have _u := HB1; clear _u; (with_reducible refine at_to ?_); go_loud (refine wpList_to _ rfl _ _ 25 rfl .u8 5 1 Try.underlying25 Try.infoU8 _ b rfl S_b_1.out .i64 (wrap64 ((IntKind.u64.wrap cut).tmod ((nb : Int) + 1))) rfl (by rw [HKK.out]; exact Int.natCast_nonneg _) (by rw [HKK.out, ← HN_b.out]; omega) ?_); rw [HKK.out, Int.toNat_natCast]; intro vc hvc; have HVC := hid hvc; clear hvc)
            | (have _u := HB0; clear _u; go_at_call 9; with_reducible refine (G1.out _ _ HS_b.out).mono ?_; rintro e w1 ⟨v1, rfl, ho1, hb1⟩; obtain ⟨a1, c1, hv1⟩ := ho1.form; simp only [List.length_nil] at hv1; subst hv1; have S_b_1 := hid (HS_b.out.below hb1); clear ho1; have HB1 := hid (HB0.out.trans (hb1.mono HB0.out.size)); clear hb1))
          go_ret
          exact ⟨rfl, HB3.out⟩
        · have G3 := hid (fun v w h => HT v (b ++ m) w h (hu.append hum) (by rw [List.length_append]; have := HN_b.out; have := HN_m.out; omega))
          rw [tok_more ht he2] at G3
          simp only [tkL, tkAt, tkE] at G3
          have e00 : (e == 0) = false := by simpa using he0
          have e22 : (e == 2) = false := by simpa using he2
          clear HT HE hu hum ht hi1 he0 he2 hcb
          go_enter Try.func4, Try.ntmps4
          go_wp2_with (first
            | (have _u := HB5; clear _u; go_at_call 10; refine (HW.out _).mono ?_; rintro e w6 ⟨rfl, hb6⟩; have HB6 := hid (HB5.out.trans (hb6.mono HB5.out.size)); clear hb6)
            | (have _u := HB4; clear _u; go_at_call 9; with_reducible refine (G3.out _ _ S_tm_4.out).mono ?_; rintro e w5 ⟨v5, rfl, ho5, hb5⟩; obtain ⟨a5, c5, hv5⟩ := ho5.form; simp only [List.length_nil] at hv5; subst hv5; clear ho5; have HB5 := hid (HB4.out.trans (hb5.mono HB4.out.size)); clear hb5)
            | (have _u := HB3; clear _u; at_builtin; go_loud (refine wpList_app _ rfl _ _ 25 rfl .u8 w2.heap.size 5 1 Try.underlying25 Try.infoU8 _ b m rfl O_t.out _ rfl S_m_3.out (by have := HN_b.out; have := HN_m.out; unfold maxLen; omega) (by have := HN_b.out; have := HN_m.out; omega) HQ3.out.size ?_); intro v4 w4 ho4 hg4 hb4 hn4; clear hg4 hn4; have S_tm_4 := hid ho4.sl; have HB4 := hid (HB2.out.trans ((HQ3.out.trans hb4).mono HB2.out.size)); clear hb4 ho4)
            | (have _u := HB2; clear _u; go_at_call 12; with_reducible refine (keepTwin _ b _ S_b_2.out (by have := HN_b.out; omega)).mono ?_; rintro e w3 ⟨v3, rfl, ho3, hb3⟩; have S_m_3 := hid (S_m_2.out.below hb3); have O_t := hid ho3; have HQ3 := hid hb3; clear ho3; have HB3 := hid (HB2.out.trans (hb3.mono HB2.out.size)); clear hb3)
            | (have _u := HB1; clear _u; go_at_call 9; with_reducible refine (G2.out _ _ HVC.out).mono ?_; rintro e w2 ⟨v2, rfl, ho2, hb2⟩; have S_b_2 := hid (S_b_1.out.below hb2); have S_m_2 := hid (S_m_1.out.below hb2); clear ho2; have HB2 := hid (HB1.out.trans (hb2.mono HB1.out.size)); clear hb2)
            | (have _u := HB1; clear _u; (with_reducible refine at_to ?_); go_loud (refine wpList_to _ rfl _ _ 25 rfl .u8 5 1 Try.underlying25 Try.infoU8 _ b rfl S_b_1.out .i64 (wrap64 ((IntKind.u64.wrap cut).tmod ((nb : Int) + 1))) rfl (by rw [HKK.out]; exact Int.natCast_nonneg _) (by rw [HKK.out, ← HN_b.out]; omega) ?_); rw [HKK.out, Int.toNat_natCast]; intro vc hvc; have HVC := hid hvc; clear hvc)
            | (have _u := HB0; clear _u; go_at_call 9; with_reducible refine (G1.out _ _ HS_b.out).mono ?_; rintro e w1 ⟨v1, rfl, ho1, hb1⟩; obtain ⟨a1, c1, hv1⟩ := ho1.form; simp only [List.length_nil] at hv1; subst hv1; have S_b_1 := hid (HS_b.out.below hb1); have S_m_1 := hid (HS_m.out.below hb1); clear ho1; have HB1 := hid (HB0.out.trans (hb1.mono HB0.out.size)); clear hb1))
          go_ret
          exact ⟨rfl, HB6.out⟩
    · have hf_nm : 400 < nm := by omega
      clear hl_nm HT HE
      go_enter Try.func4, Try.ntmps4
      go_wp2
      go_ret
      exact ⟨rfl, Below.refl _ _⟩
  · have hf_nb : 400 < nb := by omega
    clear hl_nb HT HE
    go_enter Try.func4, Try.ntmps4
    go_wp2
    go_ret
    exact ⟨rfl, Below.refl _ _⟩
end Go.Proofs.Ytkjhbfcblnbkfaa
