/- Contracts of package wide: Put and Get. No conditions. -/
import Derived.Test.YtcbijgmlmcpidaaWide14a
import Derived.Test.YtcbijgmlmcpidaaWideOk
import Derived.BigQuiet
namespace Go.Proofs.Ytcbijgmlmcpidaa
open Go.RowKit

set_option maxRecDepth 10000 in
set_option maxHeartbeats 4000000 in
theorem widePut (f : Bool) (v : Value) (s : List Int) (w : World) (hs : Sl .i64 w v s) (hl : s.length ≤ 100000) : Calls Try.prog 7 #[v, .int .i64 ((wk f : Nat) : Int)] w fun e w' =>
    ∃ x, e = .returned (.tuple #[x, .int .i64 (outAt (wputB f s)), .int .i64 (outE 14 (wputB f s))]) ∧ Own .u8 5 w.heap.size w' x (outL (wputB f s)) ∧ Below w.heap.size w w' := by
  have HK := hid (show decide (((wk f : Nat) : Int) = 2 ∨ ((wk f : Nat) : Int) = 4) = true by cases f <;> decide)
  have HSZ := hid (fun v x c base w h ho hb hl => wideAppend f v x c base w h ho hb hl)
  have HRM := hid (fun c w => wideRoom f c w)
  have HLE := hid (fun c (h : wok f c = true) => show (wenc f c).length ≤ 4 by rw [(wenc_get h).1]; cases f <;> decide)
  obtain ⟨k, hk⟩ : ∃ k, k = wk f := ⟨_, rfl⟩
  rw [← hk] at HK HSZ HRM ⊢
  clear hk
  obtain ⟨a1, cap1, rfl, q1, -, h1⟩ := hs
  obtain ⟨n, hn⟩ : ∃ n, n = s.length := ⟨_, rfl⟩
  have HN := hid hn
  have H1 := hid h1
  rw [← hn] at q1 hl ⊢
  clear h1 hn
  go_enter Try.func7, Try.ntmps7
  go_wp2_with (go_at_call 14; refine (wideSize _ _).mono ?_; rw [HK.out]; rintro e w1 ⟨rfl, rfl⟩)
  go_loopw [4, 5, 6, 14] (fun bv rv ev iv wr => ∃ (j : Nat) (x : List Int), j ≤ n ∧ iv = .int .i64 j ∧ rv = .int .i64 0 ∧ ev = .int .i64 0 ∧ Hid (Own .u8 5 w.heap.size wr bv x) ∧ Hid (Below w.heap.size w wr) ∧ Hid (wputB f (s.take j) = .inl x) ∧ x.length ≤ 4 * j) (fun _ _ _ iv _ => n - (intOf iv).toNat)
  case atStart => exact ⟨0, [], by omega, rfl, rfl, rfl, Own.nil _ _ _ _, Below.refl _ _, by show wputB f (s.take 0) = _; rfl, by simp⟩
  case round =>
    obtain ⟨j, x, hj, rfl, rfl, rfl, hown, hbel, hput, hxl⟩ := hrel
    by_cases hlt : j < n
    · rcases H1.out with hcc | ⟨b1, o1, rfl, hb1, hc⟩
      · omega
      have hb1' := hb1 (by have := HN.out; omega)
      have d1 := (hbel.out.cell (p := ⟨b1, o1 + j, none⟩) hb1').trans (hc j (by have := HN.out; omega))
      obtain ⟨p1, p2⟩ := putG_part (by have := HN.out; omega) hput.out
      clear hc hb1 hb1'
      generalize s.getD j 0 = c at d1 p1 p2
      cases hsc : wok f c with
      | false =>
        have HSC := hid hsc
        have HP := hid (show wputB f s = .inr j from p1 hsc)
        clear p1 p2 hsc
        go_wp2_with (go_at_call 15; refine (HRM.out c _).mono ?_; rw [HSC.out]; rintro e w1 ⟨rfl, rfl⟩)
        go_ret3
        exact ⟨_, by rw [HP.out]; rfl, by rw [HP.out]; exact Own.nil .u8 5 _ _, hbel.out⟩
      | true =>
        have HSC := hid hsc
        have HP := hid (show wputB f (s.take (j + 1)) = .inl (x ++ wenc f c) from p2 hsc)
        have hel := HLE.out c hsc
        have HX := hid (show (x ++ wenc f c).length = x.length + (wenc f c).length by simp)
        clear p1 p2 hsc
        go_wp2_with (first
          | (go_at_call 15; refine (HRM.out c _).mono ?_; rw [HSC.out]; rintro e w1 ⟨rfl, rfl⟩)
          | (go_at_call 16; refine (HSZ.out _ x c w.heap.size _ HSC.out hown.out hbel.out.size (by omega)).mono ?_; rintro e w1 ⟨v1, rfl, ho1, hb1⟩; have HO5 := hid ho1; have HB5 := hid (hbel.out.trans hb1); clear ho1 hb1))
        go_roundw
        case rel => exact ⟨j + 1, x ++ wenc f c, by omega, by go_num, rfl, rfl, HO5.out, HB5.out, HP.out, by rw [HX.out]; omega⟩
        case measure => simp [intOf]; omega
    · obtain rfl : j = n := by omega
      have HP := hid (show wputB f s = .inl x by rw [← hput.out, HN.out, List.take_length])
      go_wp2
      go_ret3
      exact ⟨_, by rw [HP.out]; rfl, by rw [HP.out]; exact hown.out, hbel.out⟩

set_option maxRecDepth 10000 in
set_option maxHeartbeats 4000000 in
theorem wideGet_false (v : Value) (b : List Int) (w : World) (hs : Sl .u8 w v b) (hu : U8 b) (hl : b.length ≤ 1000000) : Calls Try.prog 8 #[v, .int .i64 2] w fun e w' =>
    ∃ x, e = .returned (.tuple #[x, .int .i64 (wgetB false b).2.1, .int .i64 (wgetB false b).2.2]) ∧ Own .i64 3 w.heap.size w' x (wgetB false b).1 ∧ Below w.heap.size w w' := by
  have HS := hid hs
  obtain ⟨a1, cap1, hv⟩ := hs.form
  obtain ⟨n, hn⟩ : ∃ n, n = b.length := ⟨_, rfl⟩
  have HN := hid hn
  rw [← hn] at hv hl
  subst hv
  clear hn hs
  have HK := hid (show decide ((2 : Int) = 2 ∨ (2 : Int) = 4) = true by decide)
  by_cases hm : n % 2 = 0
  · obtain ⟨m, hmm⟩ : ∃ m, m = n / 2 := ⟨_, rfl⟩
    have hnm : n = 2 * m := by omega
    have hmod : (n : Int) % 2 = 0 := by omega
    have HNM := hid hnm
    have HW := hid (show wgetB false b = res3 13 (getN 2 wdec m b) by unfold wgetB; rw [if_pos (show b.length % wk false = 0 by rw [← HN.out]; exact hm), ← HN.out, hmm]; rfl)
    clear hm hmm hnm
    go_enter Try.func8, Try.ntmps8
    go_wp2_with (go_at_call 14; refine (wideSize _ _).mono ?_; rw [HK.out]; rintro e w1 ⟨rfl, rfl⟩)
    go_loopw [4, 5, 6, 8, 9] (fun sv rv ev iv _ wr => ∃ (i j : Nat) (t : List Int), i = 2 * j ∧ j ≤ m ∧ iv = .int .i64 i ∧ rv = .int .i64 0 ∧ ev = .int .i64 0 ∧ Hid (Own .i64 3 w.heap.size wr sv t) ∧ Hid (Below w.heap.size w wr) ∧ Hid (getN 2 wdec m b = goOn t (2 * j) (getN 2 wdec (m - j) (b.drop (2 * j)))) ∧ t.length = j) (fun _ _ _ iv _ _ => n - (intOf iv).toNat)
    case atStart => exact ⟨0, 0, [], rfl, Nat.zero_le _, rfl, rfl, rfl, Own.nil _ _ _ _, Below.refl _ _, by show _ = goOn [] _ _; cases hg : getN 2 wdec m b <;> simp [goOn, hg], rfl⟩
    case round =>
      obtain ⟨i, j, t, hij, hj, rfl, rfl, rfl, hown, hbel, hgot, htl⟩ := hrel
      have hnm := HNM.out
      clear hmod
      by_cases hlt : j < m
      · obtain ⟨ch, hch⟩ : ∃ ch, ch = (b.drop (2 * j)).take 2 := ⟨_, rfl⟩
        have hchl : ch.length ≤ 4 := by rw [hch, List.length_take]; omega
        have hchu : U8 ch := by rw [hch]; exact fun x hx => hu x (List.mem_of_mem_drop (List.mem_of_mem_take hx))
        have HCH := hid (show (b.drop i).take (i + 2 - i) = ch by rw [hch, hij, Nat.add_sub_cancel_left])
        have HG := hid (getN_part hlt hgot.out)
        rw [← hch] at HG
        have hlt2 : i < n := by omega
        have hlt3 : i + 2 ≤ n := by omega
        have htb : t.length ≤ 1000000 := by omega
        have hni : ((i + 2 : Nat) : Int) = (i : Int) + 2 := by omega
        have HIJ := hid hij
        have HX := hid (fun c => show (t ++ [c]).length = t.length + 1 by simp)
        have hjm : j < m := hlt
        clear hnm hch hij hlt
        generalize hcc : wval ch = c
        cases hsc : scalarB c with
        | false =>
          have HSC := hid hsc
          have HD := hid (HG.out.1 (by unfold wdec; rw [hcc, hsc]; rfl))
          have HR := hid (show wgetB false b = ([], ((2 * j : Nat) : Int), 13) by rw [HW.out, HD.out]; rfl)
          rw [← HIJ.out] at HR
          have HCV := hid hcc
          clear hsc hcc
          go_wp2_with (first
            | (with_reducible refine at_span ?_; refine wpList_span _ rfl _ _ _ 23 rfl .u8 5 1 Try.underlying23 Try.infoU8 (.slice a1 n cap1) b rfl (HS.out.below hbel.out) .i64 .i64 (i : Int) ((i : Int) + 2) rfl rfl (by omega) (by omega) (by have := HN.out; omega) ?_; rw [← hni, Int.toNat_natCast, Int.toNat_natCast, HCH.out]; intro v3 hv3; have HV3 := hid hv3; clear hv3)
            | (go_at_call 17; refine (wideNumber _ ch _ HV3.out hchu hchl).mono ?_; rw [HCV.out]; rintro e w1 ⟨rfl, hb1⟩; have HB1 := hid (hbel.out.trans (hb1.mono hbel.out.size)); clear hb1)
            | (go_at_call 18; refine (ucdScalar c _).mono ?_; rw [HSC.out]; rintro e w1 ⟨rfl, rfl⟩))
          go_ret3
          exact ⟨_, by rw [HR.out]; rfl, by rw [HR.out]; exact Own.nil .i64 3 _ _, HB1.out⟩
        | true =>
          have HSC := hid hsc
          have HD := hid (HG.out.2 c (by unfold wdec; rw [hcc, hsc]; rfl))
          have HCV := hid hcc
          have HXC := hid (HX.out c)
          obtain ⟨k0, k1⟩ := scalar_parts hsc
          clear hsc hcc
          go_wp2_with (first
            | (with_reducible refine at_span ?_; refine wpList_span _ rfl _ _ _ 23 rfl .u8 5 1 Try.underlying23 Try.infoU8 (.slice a1 n cap1) b rfl (HS.out.below hbel.out) .i64 .i64 (i : Int) ((i : Int) + 2) rfl rfl (by omega) (by omega) (by have := HN.out; omega) ?_; rw [← hni, Int.toNat_natCast, Int.toNat_natCast, HCH.out]; intro v3 hv3; have HV3 := hid hv3; clear hv3)
            | (go_at_call 17; refine (wideNumber _ ch _ HV3.out hchu hchl).mono ?_; rw [HCV.out]; rintro e w1 ⟨rfl, hb1⟩; have HB1 := hid (hbel.out.trans (hb1.mono hbel.out.size)); have HW1 := hid (hown.out.below hb1); clear hb1)
            | (go_at_call 18; refine (ucdScalar c _).mono ?_; rw [HSC.out]; rintro e w1 ⟨rfl, rfl⟩)
            | (at_builtin; go_loud (refine wpList_app _ rfl _ _ 22 rfl .i64 w.heap.size 3 8 Try.underlying22 Try.infoI64 _ t [c] rfl (HW1.out.alloc _) _ rfl (one_sl (by first | simp | rfl)) (by unfold maxLen; simp; omega) (by simp; omega) (by have := HB1.out.size; simp; omega) ?_); intro v5 w5 ho5 hg5 hb5 hn5; have HO5 := hid ho5; have HB5 := hid ((HB1.out.alloc HB1.out.size _).trans hb5); clear ho5 hg5 hb5 hn5))
          go_roundw
          case rel => exact ⟨i + 2, j + 1, t ++ [c], (by have := HIJ.out; omega), by omega, by rw [hni], rfl, rfl, HO5.out, HB5.out, HD.out, by rw [HXC.out]; omega⟩
          case measure => simp [intOf]; omega
      · obtain rfl : j = m := by omega
        have hin : i = n := by omega
        clear hnm hij
        have HR := hid (show wgetB false b = (t, 0, 0) by rw [HW.out, getN_end hgot.out]; rfl)
        subst hin
        go_wp2
        go_ret3
        exact ⟨_, by rw [HR.out]; rfl, by rw [HR.out]; exact hown.out, hbel.out⟩
  · have hmod : ¬ (n : Int) % 2 = 0 := by omega
    obtain ⟨q, hq⟩ : ∃ q, q = n % 2 := ⟨_, rfl⟩
    obtain ⟨z, hz⟩ : ∃ z, z = n - q := ⟨_, rfl⟩
    have eq1 : (n : Int) % 2 = (q : Int) := by omega
    have hq0 : q ≠ 0 := by omega
    have hqk : q < 2 := by omega
    have hqn : q ≤ n := by omega
    have eq2 : (n : Int) - (q : Int) = (z : Int) := by omega
    have hq1 : ((q : Int) != 0) = true := by simp; omega
    have HR := hid (show wgetB false b = ([], (z : Int), 11) by unfold wgetB; rw [if_neg (show ¬ b.length % wk false = 0 by rw [← HN.out]; exact hm), ← HN.out]; show (_, ((n / 2 * 2 : Nat) : Int), _) = _; congr 2; omega)
    clear hm hq hz hmod
    go_enter Try.func8, Try.ntmps8
    go_wp2_with (go_at_call 14; refine (wideSize _ _).mono ?_; rw [HK.out]; rintro e w1 ⟨rfl, rfl⟩)
    go_ret3
    exact ⟨_, by rw [HR.out]; rfl, by rw [HR.out]; exact Own.nil .i64 3 _ _, Below.refl _ _⟩

set_option maxRecDepth 10000 in
set_option maxHeartbeats 4000000 in
theorem wideGet_true (v : Value) (b : List Int) (w : World) (hs : Sl .u8 w v b) (hu : U8 b) (hl : b.length ≤ 1000000) : Calls Try.prog 8 #[v, .int .i64 4] w fun e w' =>
    ∃ x, e = .returned (.tuple #[x, .int .i64 (wgetB true b).2.1, .int .i64 (wgetB true b).2.2]) ∧ Own .i64 3 w.heap.size w' x (wgetB true b).1 ∧ Below w.heap.size w w' := by
  have HS := hid hs
  obtain ⟨a1, cap1, hv⟩ := hs.form
  obtain ⟨n, hn⟩ : ∃ n, n = b.length := ⟨_, rfl⟩
  have HN := hid hn
  rw [← hn] at hv hl
  subst hv
  clear hn hs
  have HK := hid (show decide ((4 : Int) = 2 ∨ (4 : Int) = 4) = true by decide)
  by_cases hm : n % 4 = 0
  · obtain ⟨m, hmm⟩ : ∃ m, m = n / 4 := ⟨_, rfl⟩
    have hnm : n = 4 * m := by omega
    have hmod : (n : Int) % 4 = 0 := by omega
    have HNM := hid hnm
    have HW := hid (show wgetB true b = res3 13 (getN 4 wdec m b) by unfold wgetB; rw [if_pos (show b.length % wk true = 0 by rw [← HN.out]; exact hm), ← HN.out, hmm]; rfl)
    clear hm hmm hnm
    go_enter Try.func8, Try.ntmps8
    go_wp2_with (go_at_call 14; refine (wideSize _ _).mono ?_; rw [HK.out]; rintro e w1 ⟨rfl, rfl⟩)
    go_loopw [4, 5, 6, 8, 9] (fun sv rv ev iv _ wr => ∃ (i j : Nat) (t : List Int), i = 4 * j ∧ j ≤ m ∧ iv = .int .i64 i ∧ rv = .int .i64 0 ∧ ev = .int .i64 0 ∧ Hid (Own .i64 3 w.heap.size wr sv t) ∧ Hid (Below w.heap.size w wr) ∧ Hid (getN 4 wdec m b = goOn t (4 * j) (getN 4 wdec (m - j) (b.drop (4 * j)))) ∧ t.length = j) (fun _ _ _ iv _ _ => n - (intOf iv).toNat)
    case atStart => exact ⟨0, 0, [], rfl, Nat.zero_le _, rfl, rfl, rfl, Own.nil _ _ _ _, Below.refl _ _, by show _ = goOn [] _ _; cases hg : getN 4 wdec m b <;> simp [goOn, hg], rfl⟩
    case round =>
      obtain ⟨i, j, t, hij, hj, rfl, rfl, rfl, hown, hbel, hgot, htl⟩ := hrel
      have hnm := HNM.out
      clear hmod
      by_cases hlt : j < m
      · obtain ⟨ch, hch⟩ : ∃ ch, ch = (b.drop (4 * j)).take 4 := ⟨_, rfl⟩
        have hchl : ch.length ≤ 4 := by rw [hch, List.length_take]; omega
        have hchu : U8 ch := by rw [hch]; exact fun x hx => hu x (List.mem_of_mem_drop (List.mem_of_mem_take hx))
        have HCH := hid (show (b.drop i).take (i + 4 - i) = ch by rw [hch, hij, Nat.add_sub_cancel_left])
        have HG := hid (getN_part hlt hgot.out)
        rw [← hch] at HG
        have hlt2 : i < n := by omega
        have hlt3 : i + 4 ≤ n := by omega
        have htb : t.length ≤ 1000000 := by omega
        have hni : ((i + 4 : Nat) : Int) = (i : Int) + 4 := by omega
        have HIJ := hid hij
        have HX := hid (fun c => show (t ++ [c]).length = t.length + 1 by simp)
        have hjm : j < m := hlt
        clear hnm hch hij hlt
        generalize hcc : wval ch = c
        cases hsc : scalarB c with
        | false =>
          have HSC := hid hsc
          have HD := hid (HG.out.1 (by unfold wdec; rw [hcc, hsc]; rfl))
          have HR := hid (show wgetB true b = ([], ((4 * j : Nat) : Int), 13) by rw [HW.out, HD.out]; rfl)
          rw [← HIJ.out] at HR
          have HCV := hid hcc
          clear hsc hcc
          go_wp2_with (first
            | (with_reducible refine at_span ?_; refine wpList_span _ rfl _ _ _ 23 rfl .u8 5 1 Try.underlying23 Try.infoU8 (.slice a1 n cap1) b rfl (HS.out.below hbel.out) .i64 .i64 (i : Int) ((i : Int) + 4) rfl rfl (by omega) (by omega) (by have := HN.out; omega) ?_; rw [← hni, Int.toNat_natCast, Int.toNat_natCast, HCH.out]; intro v3 hv3; have HV3 := hid hv3; clear hv3)
            | (go_at_call 17; refine (wideNumber _ ch _ HV3.out hchu hchl).mono ?_; rw [HCV.out]; rintro e w1 ⟨rfl, hb1⟩; have HB1 := hid (hbel.out.trans (hb1.mono hbel.out.size)); clear hb1)
            | (go_at_call 18; refine (ucdScalar c _).mono ?_; rw [HSC.out]; rintro e w1 ⟨rfl, rfl⟩))
          go_ret3
          exact ⟨_, by rw [HR.out]; rfl, by rw [HR.out]; exact Own.nil .i64 3 _ _, HB1.out⟩
        | true =>
          have HSC := hid hsc
          have HD := hid (HG.out.2 c (by unfold wdec; rw [hcc, hsc]; rfl))
          have HCV := hid hcc
          have HXC := hid (HX.out c)
          obtain ⟨k0, k1⟩ := scalar_parts hsc
          clear hsc hcc
          go_wp2_with (first
            | (with_reducible refine at_span ?_; refine wpList_span _ rfl _ _ _ 23 rfl .u8 5 1 Try.underlying23 Try.infoU8 (.slice a1 n cap1) b rfl (HS.out.below hbel.out) .i64 .i64 (i : Int) ((i : Int) + 4) rfl rfl (by omega) (by omega) (by have := HN.out; omega) ?_; rw [← hni, Int.toNat_natCast, Int.toNat_natCast, HCH.out]; intro v3 hv3; have HV3 := hid hv3; clear hv3)
            | (go_at_call 17; refine (wideNumber _ ch _ HV3.out hchu hchl).mono ?_; rw [HCV.out]; rintro e w1 ⟨rfl, hb1⟩; have HB1 := hid (hbel.out.trans (hb1.mono hbel.out.size)); have HW1 := hid (hown.out.below hb1); clear hb1)
            | (go_at_call 18; refine (ucdScalar c _).mono ?_; rw [HSC.out]; rintro e w1 ⟨rfl, rfl⟩)
            | (at_builtin; go_loud (refine wpList_app _ rfl _ _ 22 rfl .i64 w.heap.size 3 8 Try.underlying22 Try.infoI64 _ t [c] rfl (HW1.out.alloc _) _ rfl (one_sl (by first | simp | rfl)) (by unfold maxLen; simp; omega) (by simp; omega) (by have := HB1.out.size; simp; omega) ?_); intro v5 w5 ho5 hg5 hb5 hn5; have HO5 := hid ho5; have HB5 := hid ((HB1.out.alloc HB1.out.size _).trans hb5); clear ho5 hg5 hb5 hn5))
          go_roundw
          case rel => exact ⟨i + 4, j + 1, t ++ [c], (by have := HIJ.out; omega), by omega, by rw [hni], rfl, rfl, HO5.out, HB5.out, HD.out, by rw [HXC.out]; omega⟩
          case measure => simp [intOf]; omega
      · obtain rfl : j = m := by omega
        have hin : i = n := by omega
        clear hnm hij
        have HR := hid (show wgetB true b = (t, 0, 0) by rw [HW.out, getN_end hgot.out]; rfl)
        subst hin
        go_wp2
        go_ret3
        exact ⟨_, by rw [HR.out]; rfl, by rw [HR.out]; exact hown.out, hbel.out⟩
  · have hmod : ¬ (n : Int) % 4 = 0 := by omega
    obtain ⟨q, hq⟩ : ∃ q, q = n % 4 := ⟨_, rfl⟩
    obtain ⟨z, hz⟩ : ∃ z, z = n - q := ⟨_, rfl⟩
    have eq1 : (n : Int) % 4 = (q : Int) := by omega
    have hq0 : q ≠ 0 := by omega
    have hqk : q < 4 := by omega
    have hqn : q ≤ n := by omega
    have eq2 : (n : Int) - (q : Int) = (z : Int) := by omega
    have hq1 : ((q : Int) != 0) = true := by simp; omega
    have HR := hid (show wgetB true b = ([], (z : Int), 11) by unfold wgetB; rw [if_neg (show ¬ b.length % wk true = 0 by rw [← HN.out]; exact hm), ← HN.out]; show (_, ((n / 4 * 4 : Nat) : Int), _) = _; congr 2; omega)
    clear hm hq hz hmod
    go_enter Try.func8, Try.ntmps8
    go_wp2_with (go_at_call 14; refine (wideSize _ _).mono ?_; rw [HK.out]; rintro e w1 ⟨rfl, rfl⟩)
    go_ret3
    exact ⟨_, by rw [HR.out]; rfl, by rw [HR.out]; exact Own.nil .i64 3 _ _, Below.refl _ _⟩

set_option maxHeartbeats 4000000 in
theorem widePutNo (v : Value) (s : List Int) (k : Int) (w : World) (hs : Sl .i64 w v s) (h2 : k ≠ 2) (h4 : k ≠ 4) : Calls Try.prog 7 #[v, .int .i64 k] w fun e w' =>
    e = .returned (.tuple #[.slice none 0 0, .int .i64 0, .int .i64 1]) ∧ w = w' := by
  obtain ⟨a1, cap1, rfl⟩ := hs.form
  have HK := hid (show decide (k = 2 ∨ k = 4) = false from decide_eq_false (by omega))
  go_enter Try.func7, Try.ntmps7
  go_wp2_with (go_at_call 14; refine (wideSize _ _).mono ?_; rw [HK.out]; rintro e w1 ⟨rfl, rfl⟩)
  go_ret3
  exact ⟨rfl, rfl⟩
set_option maxHeartbeats 4000000 in
theorem wideGetNo (v : Value) (b : List Int) (k : Int) (w : World) (hs : Sl .u8 w v b) (h2 : k ≠ 2) (h4 : k ≠ 4) : Calls Try.prog 8 #[v, .int .i64 k] w fun e w' =>
    e = .returned (.tuple #[.slice none 0 0, .int .i64 0, .int .i64 1]) ∧ w = w' := by
  obtain ⟨a1, cap1, rfl⟩ := hs.form
  have HK := hid (show decide (k = 2 ∨ k = 4) = false from decide_eq_false (by omega))
  go_enter Try.func8, Try.ntmps8
  go_wp2_with (go_at_call 14; refine (wideSize _ _).mono ?_; rw [HK.out]; rintro e w1 ⟨rfl, rfl⟩)
  go_ret3
  exact ⟨rfl, rfl⟩

theorem widePutOk : WPutOk := by
  intro v s size w hs _ hl
  by_cases h2 : size = 2
  · subst h2
    exact widePut false v s w hs hl
  by_cases h4 : size = 4
  · subst h4
    exact widePut true v s w hs hl
  · unfold wput
    rw [if_neg h2, if_neg h4]
    exact (widePutNo v s size w hs h2 h4).mono fun _ _ ⟨h, hw⟩ => ⟨_, h, hw ▸ Own.nil .u8 5 _ _, hw ▸ Below.refl _ _⟩
/-- as WGetOk, and its result is the call's own -/
theorem wideGetOwn (v : Value) (b : List Int) (size : Int) (w : World) (hs : Sl .u8 w v b) (hu : U8 b) (hl : b.length ≤ 1000000) : Calls Try.prog 8 #[v, .int .i64 size] w fun e w' =>
    ∃ x, e = .returned (.tuple #[x, .int .i64 (wget size b).2.1, .int .i64 (wget size b).2.2]) ∧ Own .i64 3 w.heap.size w' x (wget size b).1 ∧ Below w.heap.size w w' := by
  by_cases h2 : size = 2
  · subst h2
    exact wideGet_false v b w hs hu hl
  by_cases h4 : size = 4
  · subst h4
    exact wideGet_true v b w hs hu hl
  · unfold wget
    rw [if_neg h2, if_neg h4]
    exact (wideGetNo v b size w hs h2 h4).mono fun _ _ ⟨h, hw⟩ => ⟨_, h, hw ▸ Own.nil .i64 3 _ _, hw ▸ Below.refl _ _⟩
theorem wideGetOk : WGetOk := fun v b size w hs hu hl => (wideGetOwn v b size w hs hu hl).mono fun _ _ ⟨x, h1, h2, h3⟩ => ⟨x, h1, h2.sl, h3⟩
end Go.Proofs.Ytcbijgmlmcpidaa
