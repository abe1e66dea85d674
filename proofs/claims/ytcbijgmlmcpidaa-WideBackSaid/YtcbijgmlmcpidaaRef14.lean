/- Contracts of the document's PutWide and GetWide. No conditions. -/
import Derived.Test.YtcbijgmlmcpidaaWideSpec
import Derived.Test.YtcbijgmlmcpidaaRefSc
import Derived.Test.YtcbijgmlmcpidaaKeep
import Derived.Test.YtcbijgmlmcpidaaKeepInts
import Derived.BigQuiet
namespace Go.Proofs.Ytcbijgmlmcpidaa
open Go.RowKit
theorem wval_snoc (l : List Int) (x : Int) : wval (l ++ [x]) = 256 * wval l + x := by simp [wval, List.foldl_append]

set_option maxRecDepth 10000 in
set_option maxHeartbeats 4000000 in
theorem refPut14_false (v : Value) (s : List Int) (w : World) (hs : Sl .i64 w v s) (hl : s.length ≤ 100000) : Calls Try.prog 9 #[v, .int .i64 2] w fun e w' =>
    ∃ x, e = .returned (.tuple #[x, .int .i64 (outAt (wputB false s)), .int .i64 (outE 14 (wputB false s))]) ∧ Sl .u8 w' x (outL (wputB false s)) ∧ Below w.heap.size w w' := by
  obtain ⟨a1, cap1, rfl, q1, -, h1⟩ := hs
  obtain ⟨n, hn⟩ : ∃ n, n = s.length := ⟨_, rfl⟩
  have HN := hid hn
  have H1 := hid h1
  rw [← hn] at q1 hl ⊢
  clear h1 hn
  go_enter Try.func9, Try.ntmps9
  go_wp2
  go_loopw [7, 8] (fun bv iv wr => ∃ (j : Nat) (x : List Int), j ≤ n ∧ iv = .int .i64 j ∧ Hid (Own .u8 5 w.heap.size wr bv x) ∧ Hid (Below w.heap.size w wr) ∧ Hid (wputB false (s.take j) = .inl x) ∧ x.length = 2 * j) (fun _ iv _ => n - (intOf iv).toNat)
  case atStart => exact ⟨0, [], by omega, rfl, Own.nil _ _ _ _, Below.refl _ _, by show wputB false (s.take 0) = _; rfl, by simp⟩
  case round =>
    obtain ⟨j, x, hj, rfl, hown, hbel, hput, hxl⟩ := hrel
    by_cases hlt : j < n
    · rcases H1.out with hcc | ⟨b1, o1, rfl, hb1, hc⟩
      · omega
      have hb1' := hb1 (by have := HN.out; omega)
      have d1 := (hbel.out.cell (p := ⟨b1, o1 + j, none⟩) hb1').trans (hc j (by have := HN.out; omega))
      obtain ⟨p1, p2⟩ := putG_part (by have := HN.out; omega) hput.out
      clear hc hb1 hb1'
      generalize s.getD j 0 = c at d1 p1 p2
      cases hsc : scalarB c with
      | false =>
        have HSC := hid hsc
        have HP := hid (show wputB false s = .inr j from p1 (by unfold wok; rw [hsc]; rfl))
        clear p1 p2 hsc
        go_wp2_with (go_at_call 19; refine (refScalar6 c _).mono ?_; rw [HSC.out]; rintro e w1 ⟨rfl, rfl⟩)
        go_ret3
        exact ⟨_, by rw [HP.out]; rfl, by rw [HP.out]; exact (Own.nil .u8 5 0 _).sl, hbel.out⟩
      | true =>
        obtain ⟨k0, k1⟩ := scalar_parts hsc
        have HSC := hid hsc
        by_cases hbig : c ≤ 65535
        · have HP := hid (show wputB false (s.take (j + 1)) = .inl (x ++ [c / 256, c % 256]) from p2 (by unfold wok; rw [hsc, Bool.true_and, Bool.false_or]; exact decide_eq_true hbig))
          have HX := hid (show (x ++ [c / 256, c % 256]).length = x.length + 2 by simp)
          clear p1 p2 hsc
          go_wp2_with (first
            | (go_at_call 19; refine (refScalar6 c _).mono ?_; rw [HSC.out]; rintro e w1 ⟨rfl, rfl⟩)
            | (at_builtin; go_loud (refine wpList_app _ rfl _ _ 23 rfl .u8 w.heap.size 5 1 Try.underlying23 Try.infoU8 _ x [c / 256, c % 256] rfl (hown.out.alloc _) _ rfl (lit_sl (by first | simp | rfl) rfl rfl (by simp)) (by unfold maxLen; simp; omega) (by simp; omega) (by have := hbel.out.size; simp; omega) ?_); intro v1 w1 ho1 hg1 hb1 hn1; have HO1 := hid ho1; have HB1 := hid ((hbel.out.alloc hbel.out.size _).trans hb1); clear ho1 hg1 hb1 hn1))
          go_roundw
          case rel => exact ⟨j + 1, x ++ [c / 256, c % 256], by omega, by go_num, HO1.out, HB1.out, HP.out, by rw [HX.out]; omega⟩
          case measure => simp [intOf]; omega
        · have HP := hid (show wputB false s = .inr j from p1 (by unfold wok; rw [hsc, Bool.true_and, Bool.false_or]; exact decide_eq_false hbig))
          clear p1 p2 hsc
          go_wp2_with (go_at_call 19; refine (refScalar6 c _).mono ?_; rw [HSC.out]; rintro e w1 ⟨rfl, rfl⟩)
          go_ret3
          exact ⟨_, by rw [HP.out]; rfl, by rw [HP.out]; exact (Own.nil .u8 5 0 _).sl, hbel.out⟩
    · obtain rfl : j = n := by omega
      have HP := hid (show wputB false s = .inl x by rw [← hput.out, HN.out, List.take_length])
      go_wp2
      go_ret3
      exact ⟨_, by rw [HP.out]; rfl, by rw [HP.out]; exact hown.out.sl, hbel.out⟩

set_option maxRecDepth 10000 in
set_option maxHeartbeats 4000000 in
theorem refPut14_true (v : Value) (s : List Int) (w : World) (hs : Sl .i64 w v s) (hl : s.length ≤ 100000) : Calls Try.prog 9 #[v, .int .i64 4] w fun e w' =>
    ∃ x, e = .returned (.tuple #[x, .int .i64 (outAt (wputB true s)), .int .i64 (outE 14 (wputB true s))]) ∧ Sl .u8 w' x (outL (wputB true s)) ∧ Below w.heap.size w w' := by
  obtain ⟨a1, cap1, rfl, q1, -, h1⟩ := hs
  obtain ⟨n, hn⟩ : ∃ n, n = s.length := ⟨_, rfl⟩
  have HN := hid hn
  have H1 := hid h1
  rw [← hn] at q1 hl ⊢
  clear h1 hn
  go_enter Try.func9, Try.ntmps9
  go_wp2
  go_loopw [7, 8] (fun bv iv wr => ∃ (j : Nat) (x : List Int), j ≤ n ∧ iv = .int .i64 j ∧ Hid (Own .u8 5 w.heap.size wr bv x) ∧ Hid (Below w.heap.size w wr) ∧ Hid (wputB true (s.take j) = .inl x) ∧ x.length = 4 * j) (fun _ iv _ => n - (intOf iv).toNat)
  case atStart => exact ⟨0, [], by omega, rfl, Own.nil _ _ _ _, Below.refl _ _, by show wputB true (s.take 0) = _; rfl, by simp⟩
  case round =>
    obtain ⟨j, x, hj, rfl, hown, hbel, hput, hxl⟩ := hrel
    by_cases hlt : j < n
    · rcases H1.out with hcc | ⟨b1, o1, rfl, hb1, hc⟩
      · omega
      have hb1' := hb1 (by have := HN.out; omega)
      have d1 := (hbel.out.cell (p := ⟨b1, o1 + j, none⟩) hb1').trans (hc j (by have := HN.out; omega))
      obtain ⟨p1, p2⟩ := putG_part (by have := HN.out; omega) hput.out
      clear hc hb1 hb1'
      generalize s.getD j 0 = c at d1 p1 p2
      cases hsc : scalarB c with
      | false =>
        have HSC := hid hsc
        have HP := hid (show wputB true s = .inr j from p1 (by unfold wok; rw [hsc]; rfl))
        clear p1 p2 hsc
        go_wp2_with (go_at_call 19; refine (refScalar6 c _).mono ?_; rw [HSC.out]; rintro e w1 ⟨rfl, rfl⟩)
        go_ret3
        exact ⟨_, by rw [HP.out]; rfl, by rw [HP.out]; exact (Own.nil .u8 5 0 _).sl, hbel.out⟩
      | true =>
        obtain ⟨k0, k1⟩ := scalar_parts hsc
        have HSC := hid hsc
        have HP := hid (show wputB true (s.take (j + 1)) = .inl (x ++ [0, c / 65536] ++ [c / 256 % 256, c % 256]) by
          rw [List.append_assoc]
          exact p2 (by unfold wok; rw [hsc]; rfl))
        have HX := hid (show (x ++ [0, c / 65536] ++ [c / 256 % 256, c % 256]).length = x.length + 4 by simp)
        clear p1 p2 hsc
        go_wp2_with (first
            | (go_at_call 19; refine (refScalar6 c _).mono ?_; rw [HSC.out]; rintro e w1 ⟨rfl, rfl⟩)
            | (have _u := HB1; clear _u; at_builtin; go_loud (refine wpList_app _ rfl _ _ 23 rfl .u8 w.heap.size 5 1 Try.underlying23 Try.infoU8 _ (x ++ [0, c / 65536]) [c / 256 % 256, c % 256] rfl (HO1.out.alloc _) _ rfl (lit_sl (by first | simp | rfl) rfl rfl (by simp)) (by unfold maxLen; simp; omega) (by simp; omega) (by have := HB1.out.size; simp; omega) ?_); intro v2 w2 ho2 hg2 hb2 hn2; have HO2 := hid ho2; have HB2 := hid ((HB1.out.alloc HB1.out.size _).trans hb2); clear ho2 hg2 hb2 hn2)
            | (at_builtin; go_loud (refine wpList_app _ rfl _ _ 23 rfl .u8 w.heap.size 5 1 Try.underlying23 Try.infoU8 _ x [0, c / 65536] rfl (hown.out.alloc _) _ rfl (lit_sl (by first | simp | rfl) rfl rfl (by simp)) (by unfold maxLen; simp; omega) (by simp; omega) (by have := hbel.out.size; simp; omega) ?_); intro v1 w1 ho1 hg1 hb1 hn1; have HO1 := hid ho1; have HB1 := hid ((hbel.out.alloc hbel.out.size _).trans hb1); clear ho1 hg1 hb1 hn1))
        go_roundw
        case rel => exact ⟨j + 1, x ++ [0, c / 65536] ++ [c / 256 % 256, c % 256], by omega, by go_num, HO2.out, HB2.out, HP.out, by rw [HX.out]; omega⟩
        case measure => simp [intOf]; omega
    · obtain rfl : j = n := by omega
      have HP := hid (show wputB true s = .inl x by rw [← hput.out, HN.out, List.take_length])
      go_wp2
      go_ret3
      exact ⟨_, by rw [HP.out]; rfl, by rw [HP.out]; exact hown.out.sl, hbel.out⟩

set_option maxRecDepth 10000 in
set_option maxHeartbeats 4000000 in
theorem refGet14_false (v : Value) (b : List Int) (w : World) (hs : Sl .u8 w v b) (hu : U8 b) (hl : b.length ≤ 1000000) : Calls Try.prog 10 #[v, .int .i64 2] w fun e w' =>
    ∃ x, e = .returned (.tuple #[x, .int .i64 (wgetB false b).2.1, .int .i64 (wgetB false b).2.2]) ∧ Sl .i64 w' x (wgetB false b).1 ∧ Below w.heap.size w w' := by
  obtain ⟨a1, cap1, rfl, q1, -, h1⟩ := hs
  obtain ⟨n, hn⟩ : ∃ n, n = b.length := ⟨_, rfl⟩
  have HN := hid hn
  have H1 := hid h1
  rw [← hn] at q1 hl ⊢
  clear h1 hn
  by_cases hm : n % 2 = 0
  · obtain ⟨m, hmm⟩ : ∃ m, m = n / 2 := ⟨_, rfl⟩
    have hnm : n = 2 * m := by omega
    have hmod : (n : Int) % 2 = 0 := by omega
    have HNM := hid hnm
    have HW := hid (show wgetB false b = res3 13 (getN 2 wdec m b) by unfold wgetB; rw [if_pos (show b.length % wk false = 0 by rw [← HN.out]; exact hm), ← HN.out, hmm]; rfl)
    clear hm hmm hnm
    go_enter Try.func10, Try.ntmps10
    go_wp2
    go_loopw [7, 8] (fun sv iv wr => ∃ (i j : Nat) (t : List Int), i = 2 * j ∧ j ≤ m ∧ iv = .int .i64 i ∧ Hid (Own .i64 3 w.heap.size wr sv t) ∧ Hid (Below w.heap.size w wr) ∧ Hid (getN 2 wdec m b = goOn t (2 * j) (getN 2 wdec (m - j) (b.drop (2 * j)))) ∧ t.length = j) (fun _ iv _ => n - (intOf iv).toNat)
    case atStart => exact ⟨0, 0, [], rfl, Nat.zero_le _, rfl, Own.nil _ _ _ _, Below.refl _ _, by show _ = goOn [] _ _; cases hg : getN 2 wdec m b <;> simp [goOn, hg], rfl⟩
    case round =>
      obtain ⟨i, j, t, hij, hj, rfl, hown, hbel, hgot, htl⟩ := hrel
      have hnm := HNM.out
      clear hmod
      by_cases hlt : j < m
      · rcases H1.out with hcc | ⟨b1, o1, rfl, hb1, hc⟩
        · omega
        have hb1' := hb1 (by have := HN.out; omega)
        have HC := hid (fun k (hk : k < 2) => (hbel.out.cell (p := ⟨b1, o1 + (i + k), none⟩) hb1').trans (hc (i + k) (by have := HN.out; omega)))
        have HUB := hid (fun k => U8.get hu (i + k))
        obtain ⟨ch, hch⟩ : ∃ ch, ch = (b.drop (2 * j)).take 2 := ⟨_, rfl⟩
        have hchl : ch.length = 2 := by rw [hch, List.length_take, List.length_drop, ← HN.out]; omega
        have HCH := hid (fun k (hk : k < 2) => (show ch.take (k + 1) = ch.take k ++ [b.getD (i + k) 0] from by
          have e : ch[k]? = some (b.getD (i + k) 0) := by
            rw [hch, List.getElem?_take, if_pos hk, List.getElem?_drop, ← hij, List.getD_eq_getElem?_getD]
            cases hx : b[i + k]? with
            | none => rw [List.getElem?_eq_none_iff] at hx; have := HN.out; omega
            | some y => rfl
          rw [List.take_add_one, e]
          rfl))
        have HFUL := hid (show ch.take 2 = ch by rw [List.take_of_length_le (by omega)])
        have HG := hid (getN_part hlt hgot.out)
        rw [← hch] at HG
        have hlt2 : i < n := by omega
        have hlt3 : i + 2 ≤ n := by omega
        have htb : t.length ≤ 1000000 := by omega
        clear hnm
        have HIJ := hid hij
        have hjm : j < m := hlt
        clear hc hb1 hb1' hch hij hlt
        go_wp2
        go_loopw [9, 10] (fun cv kv wq => ∃ (k : Nat) (c : Int), k ≤ 2 ∧ kv = .int .i64 k ∧ cv = .int .i64 c ∧ wr = wq ∧ Hid (wval (ch.take k) = c) ∧ 0 ≤ c ∧ Hid ((k = 0 ∧ c = 0) ∨ (k = 1 ∧ c < 256) ∨ (k = 2 ∧ c < 65536))) (fun _ kv _ => 2 - (intOf kv).toNat)
        case atStart => exact ⟨0, 0, Nat.zero_le _, rfl, rfl, rfl, rfl, Int.le_refl _, .inl ⟨rfl, rfl⟩⟩
        case round =>
          obtain ⟨k, c, hk, rfl, rfl, rfl, hval, hc0, hbnd⟩ := hrel
          by_cases hklt : k < 2
          · have d1 := HC.out k hklt
            have hx := HUB.out k
            have HT := hid (HCH.out k hklt)
            generalize b.getD (i + k) 0 = x at d1 hx HT
            have HV := hid (show wval (ch.take (k + 1)) = 256 * c + x by rw [HT.out, wval_snoc, hval.out])
            have hcb : c < 16777216 := by have := hbnd.out; omega
            obtain ⟨ik, hik⟩ : ∃ ik, ik = i + k := ⟨_, rfl⟩
            have eik : (i : Int) + (k : Int) = (ik : Int) := by omega
            have lik : ik < n := by omega
            rw [← hik] at d1
            clear hik HT
            go_wp2
            go_roundw
            case rel => exact ⟨k + 1, 256 * c + x, by omega, by go_num, rfl, by trivial, HV.out, by omega, by show _ ∨ _; have := hbnd.out; omega⟩
            case measure => simp [intOf]; omega
          · obtain rfl : k = 2 := by omega
            have HV := hid (show wval ch = c by rw [← hval.out, HFUL.out])
            cases hsc : scalarB c with
            | false =>
              have HSC := hid hsc
              have HD := hid (HG.out.1 (by unfold wdec; rw [HV.out, hsc]; rfl))
              have HR := hid (show wgetB false b = ([], ((2 * j : Nat) : Int), 13) by rw [HW.out, HD.out]; rfl)
              rw [← HIJ.out] at HR
              clear hsc
              go_wp2_with (go_at_call 19; refine (refScalar6 c _).mono ?_; rw [HSC.out]; rintro e w1 ⟨rfl, rfl⟩)
              go_ret3
              exact ⟨_, by rw [HR.out]; rfl, by rw [HR.out]; exact (Own.nil .i64 3 0 _).sl, hbel.out⟩
            | true =>
              have HSC := hid hsc
              have HD := hid (HG.out.2 c (by unfold wdec; rw [HV.out, hsc]; rfl))
              have HX := hid (show (t ++ [c]).length = t.length + 1 by simp)
              have hni : ((i + 2 : Nat) : Int) = (i : Int) + 2 := by omega
              clear hsc
              go_wp2_with (first
                | (go_at_call 19; refine (refScalar6 c _).mono ?_; rw [HSC.out]; rintro e w1 ⟨rfl, rfl⟩)
                | (at_builtin; go_loud (refine wpList_app _ rfl _ _ 22 rfl .i64 w.heap.size 3 8 Try.underlying22 Try.infoI64 _ t [c] rfl (hown.out.alloc _) _ rfl (one_sl (by first | simp | rfl)) (by unfold maxLen; simp; omega) (by simp; omega) (by have := hbel.out.size; simp; omega) ?_); intro v5 w5 ho5 hg5 hb5 hn5; have HO5 := hid ho5; have HB5 := hid ((hbel.out.alloc hbel.out.size _).trans hb5); clear ho5 hg5 hb5 hn5))
              go_roundw
              case rel => exact ⟨i + 2, j + 1, t ++ [c], (by have := HIJ.out; omega), by omega, by rw [hni], HO5.out, HB5.out, HD.out, by rw [HX.out]; omega⟩
              case measure => simp [intOf]; omega
      · obtain rfl : j = m := by omega
        have hin : i = n := by omega
        clear hnm hij
        have HR := hid (show wgetB false b = (t, 0, 0) by rw [HW.out, getN_end hgot.out]; rfl)
        subst hin
        go_wp2
        go_ret3
        exact ⟨_, by rw [HR.out]; rfl, by rw [HR.out]; exact hown.out.sl, hbel.out⟩
  · have hmod : ¬ (n : Int) % 2 = 0 := by omega
    obtain ⟨q, hq⟩ : ∃ q, q = n / 2 := ⟨_, rfl⟩
    obtain ⟨z, hz⟩ : ∃ z, z = q * 2 := ⟨_, rfl⟩
    have eq1 : (n : Int) / 2 = (q : Int) := by omega
    have eq2 : (q : Int) * 2 = (z : Int) := by omega
    have hzn : z ≤ 1000000 := by omega
    have HR := hid (show wgetB false b = ([], (z : Int), 11) by unfold wgetB; rw [if_neg (show ¬ b.length % wk false = 0 by rw [← HN.out]; exact hm), ← HN.out, hz, hq]; rfl)
    clear hm hq hz
    go_enter Try.func10, Try.ntmps10
    go_wp2
    go_quiet (fail)
    go_wp2
    go_ret3
    exact ⟨_, by rw [HR.out]; rfl, by rw [HR.out]; exact (Own.nil .i64 3 0 _).sl, below_drewN _⟩

set_option maxRecDepth 10000 in
set_option maxHeartbeats 4000000 in
theorem refGet14_true (v : Value) (b : List Int) (w : World) (hs : Sl .u8 w v b) (hu : U8 b) (hl : b.length ≤ 1000000) : Calls Try.prog 10 #[v, .int .i64 4] w fun e w' =>
    ∃ x, e = .returned (.tuple #[x, .int .i64 (wgetB true b).2.1, .int .i64 (wgetB true b).2.2]) ∧ Sl .i64 w' x (wgetB true b).1 ∧ Below w.heap.size w w' := by
  obtain ⟨a1, cap1, rfl, q1, -, h1⟩ := hs
  obtain ⟨n, hn⟩ : ∃ n, n = b.length := ⟨_, rfl⟩
  have HN := hid hn
  have H1 := hid h1
  rw [← hn] at q1 hl ⊢
  clear h1 hn
  by_cases hm : n % 4 = 0
  · obtain ⟨m, hmm⟩ : ∃ m, m = n / 4 := ⟨_, rfl⟩
    have hnm : n = 4 * m := by omega
    have hmod : (n : Int) % 4 = 0 := by omega
    have HNM := hid hnm
    have HW := hid (show wgetB true b = res3 13 (getN 4 wdec m b) by unfold wgetB; rw [if_pos (show b.length % wk true = 0 by rw [← HN.out]; exact hm), ← HN.out, hmm]; rfl)
    clear hm hmm hnm
    go_enter Try.func10, Try.ntmps10
    go_wp2
    go_loopw [7, 8] (fun sv iv wr => ∃ (i j : Nat) (t : List Int), i = 4 * j ∧ j ≤ m ∧ iv = .int .i64 i ∧ Hid (Own .i64 3 w.heap.size wr sv t) ∧ Hid (Below w.heap.size w wr) ∧ Hid (getN 4 wdec m b = goOn t (4 * j) (getN 4 wdec (m - j) (b.drop (4 * j)))) ∧ t.length = j) (fun _ iv _ => n - (intOf iv).toNat)
    case atStart => exact ⟨0, 0, [], rfl, Nat.zero_le _, rfl, Own.nil _ _ _ _, Below.refl _ _, by show _ = goOn [] _ _; cases hg : getN 4 wdec m b <;> simp [goOn, hg], rfl⟩
    case round =>
      obtain ⟨i, j, t, hij, hj, rfl, hown, hbel, hgot, htl⟩ := hrel
      have hnm := HNM.out
      clear hmod
      by_cases hlt : j < m
      · rcases H1.out with hcc | ⟨b1, o1, rfl, hb1, hc⟩
        · omega
        have hb1' := hb1 (by have := HN.out; omega)
        have HC := hid (fun k (hk : k < 4) => (hbel.out.cell (p := ⟨b1, o1 + (i + k), none⟩) hb1').trans (hc (i + k) (by have := HN.out; omega)))
        have HUB := hid (fun k => U8.get hu (i + k))
        obtain ⟨ch, hch⟩ : ∃ ch, ch = (b.drop (4 * j)).take 4 := ⟨_, rfl⟩
        have hchl : ch.length = 4 := by rw [hch, List.length_take, List.length_drop, ← HN.out]; omega
        have HCH := hid (fun k (hk : k < 4) => (show ch.take (k + 1) = ch.take k ++ [b.getD (i + k) 0] from by
          have e : ch[k]? = some (b.getD (i + k) 0) := by
            rw [hch, List.getElem?_take, if_pos hk, List.getElem?_drop, ← hij, List.getD_eq_getElem?_getD]
            cases hx : b[i + k]? with
            | none => rw [List.getElem?_eq_none_iff] at hx; have := HN.out; omega
            | some y => rfl
          rw [List.take_add_one, e]
          rfl))
        have HFUL := hid (show ch.take 4 = ch by rw [List.take_of_length_le (by omega)])
        have HG := hid (getN_part hlt hgot.out)
        rw [← hch] at HG
        have hlt2 : i < n := by omega
        have hlt3 : i + 4 ≤ n := by omega
        have htb : t.length ≤ 1000000 := by omega
        clear hnm
        have HIJ := hid hij
        have hjm : j < m := hlt
        clear hc hb1 hb1' hch hij hlt
        go_wp2
        go_loopw [9, 10] (fun cv kv wq => ∃ (k : Nat) (c : Int), k ≤ 4 ∧ kv = .int .i64 k ∧ cv = .int .i64 c ∧ wr = wq ∧ Hid (wval (ch.take k) = c) ∧ 0 ≤ c ∧ Hid ((k = 0 ∧ c = 0) ∨ (k = 1 ∧ c < 256) ∨ (k = 2 ∧ c < 65536) ∨ (k = 3 ∧ c < 16777216) ∨ (k = 4 ∧ c < 4294967296))) (fun _ kv _ => 4 - (intOf kv).toNat)
        case atStart => exact ⟨0, 0, Nat.zero_le _, rfl, rfl, rfl, rfl, Int.le_refl _, .inl ⟨rfl, rfl⟩⟩
        case round =>
          obtain ⟨k, c, hk, rfl, rfl, rfl, hval, hc0, hbnd⟩ := hrel
          by_cases hklt : k < 4
          · have d1 := HC.out k hklt
            have hx := HUB.out k
            have HT := hid (HCH.out k hklt)
            generalize b.getD (i + k) 0 = x at d1 hx HT
            have HV := hid (show wval (ch.take (k + 1)) = 256 * c + x by rw [HT.out, wval_snoc, hval.out])
            have hcb : c < 16777216 := by have := hbnd.out; omega
            obtain ⟨ik, hik⟩ : ∃ ik, ik = i + k := ⟨_, rfl⟩
            have eik : (i : Int) + (k : Int) = (ik : Int) := by omega
            have lik : ik < n := by omega
            rw [← hik] at d1
            clear hik HT
            go_wp2
            go_roundw
            case rel => exact ⟨k + 1, 256 * c + x, by omega, by go_num, rfl, by trivial, HV.out, by omega, by show _ ∨ _; have := hbnd.out; omega⟩
            case measure => simp [intOf]; omega
          · obtain rfl : k = 4 := by omega
            have HV := hid (show wval ch = c by rw [← hval.out, HFUL.out])
            cases hsc : scalarB c with
            | false =>
              have HSC := hid hsc
              have HD := hid (HG.out.1 (by unfold wdec; rw [HV.out, hsc]; rfl))
              have HR := hid (show wgetB true b = ([], ((4 * j : Nat) : Int), 13) by rw [HW.out, HD.out]; rfl)
              rw [← HIJ.out] at HR
              clear hsc
              go_wp2_with (go_at_call 19; refine (refScalar6 c _).mono ?_; rw [HSC.out]; rintro e w1 ⟨rfl, rfl⟩)
              go_ret3
              exact ⟨_, by rw [HR.out]; rfl, by rw [HR.out]; exact (Own.nil .i64 3 0 _).sl, hbel.out⟩
            | true =>
              have HSC := hid hsc
              have HD := hid (HG.out.2 c (by unfold wdec; rw [HV.out, hsc]; rfl))
              have HX := hid (show (t ++ [c]).length = t.length + 1 by simp)
              have hni : ((i + 4 : Nat) : Int) = (i : Int) + 4 := by omega
              clear hsc
              go_wp2_with (first
                | (go_at_call 19; refine (refScalar6 c _).mono ?_; rw [HSC.out]; rintro e w1 ⟨rfl, rfl⟩)
                | (at_builtin; go_loud (refine wpList_app _ rfl _ _ 22 rfl .i64 w.heap.size 3 8 Try.underlying22 Try.infoI64 _ t [c] rfl (hown.out.alloc _) _ rfl (one_sl (by first | simp | rfl)) (by unfold maxLen; simp; omega) (by simp; omega) (by have := hbel.out.size; simp; omega) ?_); intro v5 w5 ho5 hg5 hb5 hn5; have HO5 := hid ho5; have HB5 := hid ((hbel.out.alloc hbel.out.size _).trans hb5); clear ho5 hg5 hb5 hn5))
              go_roundw
              case rel => exact ⟨i + 4, j + 1, t ++ [c], (by have := HIJ.out; omega), by omega, by rw [hni], HO5.out, HB5.out, HD.out, by rw [HX.out]; omega⟩
              case measure => simp [intOf]; omega
      · obtain rfl : j = m := by omega
        have hin : i = n := by omega
        clear hnm hij
        have HR := hid (show wgetB true b = (t, 0, 0) by rw [HW.out, getN_end hgot.out]; rfl)
        subst hin
        go_wp2
        go_ret3
        exact ⟨_, by rw [HR.out]; rfl, by rw [HR.out]; exact hown.out.sl, hbel.out⟩
  · have hmod : ¬ (n : Int) % 4 = 0 := by omega
    obtain ⟨q, hq⟩ : ∃ q, q = n / 4 := ⟨_, rfl⟩
    obtain ⟨z, hz⟩ : ∃ z, z = q * 4 := ⟨_, rfl⟩
    have eq1 : (n : Int) / 4 = (q : Int) := by omega
    have eq2 : (q : Int) * 4 = (z : Int) := by omega
    have hzn : z ≤ 1000000 := by omega
    have HR := hid (show wgetB true b = ([], (z : Int), 11) by unfold wgetB; rw [if_neg (show ¬ b.length % wk true = 0 by rw [← HN.out]; exact hm), ← HN.out, hz, hq]; rfl)
    clear hm hq hz
    go_enter Try.func10, Try.ntmps10
    go_wp2
    go_quiet (fail)
    go_wp2
    go_ret3
    exact ⟨_, by rw [HR.out]; rfl, by rw [HR.out]; exact (Own.nil .i64 3 0 _).sl, below_drewN _⟩
end Go.Proofs.Ytcbijgmlmcpidaa
