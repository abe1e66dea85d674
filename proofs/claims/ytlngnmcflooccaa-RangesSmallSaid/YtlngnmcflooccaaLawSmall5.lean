/- RangesSmall answers true: a packed table has no two blocks alike, in the order of their first use, at most three for each range, and one. -/
import Derived.Test.YtlngnmcflooccaaWakes5
import Derived.Test.YtlngnmcflooccaaLater
namespace Go.Proofs.Ytlngnmcflooccaa
open Go.RowKit

theorem nodup_ne {bs : List (List Int)} (h : bs.Nodup) {i k : Nat} (hk : k < i) (hi : i < bs.length) : bs.getD i [] ≠ bs.getD k [] := by
  rw [List.getD_eq_getElem?_getD, List.getD_eq_getElem?_getD, List.getElem?_eq_getElem hi, List.getElem?_eq_getElem (by omega)]
  intro e
  simp only [Option.getD_some] at e
  have h2 := List.pairwise_iff_getElem.1 h k i (by omega) hi hk
  exact h2 e.symm

set_option maxHeartbeats 8000000 in
set_option maxRecDepth 100000 in
theorem lawSmall5 (v1 : Value) (L : List Rg) (w : World) (h1 : Sg w v1 L) :
    Calls Try.prog 6 #[v1] w fun e w' => e = .returned (.bool true) ∧ Below w.heap.size w w' := by
  have ml1 := h1.len
  have HPK := hid (rngPack v1 L w h1)
  obtain ⟨a1, cap1, rfl, q1, -, h1⟩ := h1
  obtain ⟨n1, hn1⟩ : ∃ n, n = L.length := ⟨_, rfl⟩
  have HN := hid hn1
  rw [← hn1] at q1 ml1 HPK ⊢
  clear h1 hn1
  by_cases hb1 : 60 < n1
  · go_enter Try.func6, Try.ntmps6
    go_wp2_with (fail)
    go_ret
    exact ⟨rfl, Below.refl _ _⟩
  by_cases hf : flatS L = true
  · have hok : okL (-1) L := by unfold flatS at hf; exact (of_decide_eq_true hf).2
    have HOK := hid hok
    have HF := hid hf
    obtain ⟨g, hg⟩ : ∃ g, g = tabG L := ⟨_, rfl⟩
    have HG := hid hg
    obtain ⟨ix, hix⟩ : ∃ ix, ix = nats (packN (tabG L) 4352).1 := ⟨_, rfl⟩
    obtain ⟨bs, hbs⟩ : ∃ bs, bs = (packN (tabG L) 4352).2 := ⟨_, rfl⟩
    have HIB := hid (show ix = nats (packN (tabG L) 4352).1 ∧ bs = (packN (tabG L) 4352).2 from ⟨hix, hbs⟩)
    have hpo := packN_ok (tabG L) 4352
    obtain ⟨nb, hnb⟩ : ∃ nb, nb = bs.length := ⟨_, rfl⟩
    have HNB := hid hnb
    have hsm : nb ≤ 3 * n1 + 1 := by rw [hnb, hbs, HN.out]; exact pack_small hok 4352
    have HEACH : Hid (∀ b ∈ bs, b.length = 256) := hid (by rw [hbs]; exact hpo.each)
    have HNOD : Hid bs.Nodup := hid (by rw [hbs]; exact hpo.nodup)
    obtain ⟨lb, hlb⟩ : ∃ lb, lb = 256 * nb := ⟨_, rfl⟩
    have HFL : Hid (bs.flatten.length = lb) := hid (by rw [flat_len HEACH.out, hlb, hnb])
    have wlb : (lb : Int) / 256 = (nb : Int) := by omega
    have wlb2 : (256 : Int) * (nb : Int) = (lb : Int) := by omega
    have HLB := hid hlb
    have hnb60 : nb ≤ 200 := by omega
    have HSEEN : Hid (∀ k, k < 4352 → ∃ z : Nat, ix.getD k 0 = (z : Int) ∧ z ≤ seenN g k ∧ seenN g (k + 1) = if z = seenN g k then seenN g k + 1 else seenN g k) := hid (fun k hk => by
      refine ⟨(packN (tabG L) 4352).1.getD k 0, by rw [hix, nats_at], ?_⟩
      rw [hg]
      exact seenN_next (tabG L) hk)
    have HS0 : Hid (∀ k, k = 4352 → seenN g k = nb) := hid (fun k hk => by subst hk; unfold seenN; rw [hnb, hbs, hg])
    have HSB : Hid (∀ k, seenN g k ≤ k) := hid (fun k => by unfold seenN; exact pack_count g k)
    clear hf hok hg hix hbs hpo hnb hlb
    go_enter Try.func6, Try.ntmps6
    go_wp2_with (go_at_call 7; refine HPK.out.mono ?_; rintro e w2 ⟨p1, p2, en, rfl, hr2, hb2⟩; obtain ⟨rfl, ho1, ho2⟩ := hr2.out HF.out; rw [← HIB.out.1] at ho1; rw [← HIB.out.2] at ho2; obtain ⟨ai, ci, e1⟩ := ho1.sl.form; obtain ⟨ab, cb, e2⟩ := ho2.sl.form; rw [show ix.length = 4352 by rw [HIB.out.1]; exact pack_ixlen L] at e1; rw [HFL.out] at e2; subst e1 e2; have HO1 := hid (ho1.sl.below ((Below.refl w2.heap.size w2).alloc (Nat.le_refl _) (.cells #[.slice ai 4352 ci, .slice ab lb cb] 25))); have HO2 := hid (ho2.sl.below ((Below.refl w2.heap.size w2).alloc (Nat.le_refl _) (.cells #[.slice ai 4352 ci, .slice ab lb cb] 25))); have HST := hid (Box.made w2 25 [.slice ai 4352 ci, .slice ab lb cb]); have HB2 := hid (hb2.alloc hb2.size (.cells #[.slice ai 4352 ci, .slice ab lb cb] 25)); clear hr2 ho1 ho2 hb2)
    clear HPK
    generalize w2.alloc (.cells #[.slice ai 4352 ci, .slice ab lb cb] 25) = W at HO1 HO2 HST HB2 ⊢
    generalize w2.heap.size = S at HST ⊢
    clear wlb wlb2
    have HCL : Hid (∀ wz, Below W.heap.size W wz → ∀ i, i < 4352 → ∃ b o, ai = some ⟨b, o, none⟩ ∧ wz.cell? ⟨b, o + i, none⟩ = some (.int .i64 (ix.getD i 0))) := hid (fun wz hb i hi => by
      obtain ⟨a, cap, he, hl, hm, hs⟩ := HO1.out.below hb
      injection he with he1 he2 he3
      subst he1 he3
      rcases hs with hs | ⟨b, o, hb1, hb2, hb3⟩
      · exfalso; omega
      · exact ⟨b, o, hb1, hb3 i (by omega)⟩)
    go_loopw [6, 7] (fun sv iv_ wr => ∃ k sk : Nat, k ≤ 4352 ∧ sk ≤ 4352 ∧ sv = .int .i64 sk ∧ iv_ = .int .i64 k ∧ Hid (sk = seenN g k) ∧ W = wr) (fun _ iv_ _ => 4352 - (intOf iv_).toNat)
    case atStart => exact ⟨0, 0, by omega, by omega, rfl, rfl, rfl, rfl⟩
    case round =>
      obtain ⟨k, sk, hk, hsk, rfl, rfl, hseen, rfl⟩ := hrel
      have x0 := HST.out.cell 0
      have x1 := HST.out.cell 1
      simp only [List.getElem?_cons_zero, List.getElem?_cons_succ] at x0 x1
      by_cases hlt : k < 4352
      · obtain ⟨b, o, rfl, d1⟩ := HCL.out W (Below.refl _ _) k hlt
        obtain ⟨z, hz, hz1, hz2⟩ := HSEEN.out k hlt
        rw [hz] at d1
        rw [← hseen.out] at hz1 hz2
        have hnx := HSB.out (k + 1)
        clear hz
        by_cases he : z = sk
        · rw [if_pos he] at hz2
          have hr := hid hz2.symm
          have heb : ((z : Int) == (sk : Int)) = true := by rw [he]; simp
          have hle : sk + 1 ≤ 4352 := by omega
          clear he hz2 hnx
          go_wp2_with (fail)
          go_roundw
          case rel => exact ⟨k + 1, sk + 1, by omega, hle, by go_num, by go_num, hr.out, by trivial⟩
          case measure => simp [intOf]; omega
        · rw [if_neg he] at hz2
          have hr := hid hz2.symm
          have heb : ((z : Int) == (sk : Int)) = false := by simp; omega
          clear hz2 hnx
          go_wp2_with (fail)
          go_roundw
          case rel => exact ⟨k + 1, sk, by omega, hsk, by go_num, by go_num, hr.out, by trivial⟩
          case measure => simp [intOf]; omega
      · obtain rfl : k = 4352 := by omega
        obtain rfl : sk = nb := by have := hseen.out; rw [HS0.out 4352 rfl] at this; exact this
        clear hlt hseen HSEEN HS0 HSB
        go_wp2_with (fail)
        clear x0 x1
        go_loopw [8] (fun iv_ wr => ∃ i : Nat, i ≤ sk ∧ iv_ = .int .i64 i ∧ Hid (Below W.heap.size W wr)) (fun iv_ _ => sk - (intOf iv_).toNat)
        case atStart => exact ⟨0, by omega, rfl, Below.refl _ _⟩
        case round =>
          obtain ⟨i, hi, rfl, hbel⟩ := hrel
          by_cases hit : i < sk
          · obtain ⟨p, hp⟩ : ∃ p, p = 256 * i := ⟨_, rfl⟩
            have wp : (256 : Int) * (i : Int) = (p : Int) := by omega
            obtain ⟨p2, hp2⟩ : ∃ p2, p2 = p + 256 := ⟨_, rfl⟩
            have wp2 : (p : Int) + 256 = (p2 : Int) := by omega
            have hp2l : p2 ≤ lb := by have := HLB.out; omega
            obtain ⟨v9, e1, e2, s9⟩ := cut_all (P := Try.prog) W 23 3 Try.underlying23 Try.infoI64 .i64 (.slice ab lb cb) bs.flatten HO2.out (some (.int .i64 (p : Int))) (some (.int .i64 (p2 : Int))) p p2 (.inr ⟨_, rfl⟩) (.inr ⟨_, rfl⟩) (by omega) (by rw [HFL.out]; exact hp2l)
            have HC9 := hid (show (bs.flatten.drop p).take (p2 - p) = bs.getD i [] by rw [show p2 - p = 256 by omega, hp]; exact flat_drop HEACH.out (by have := HNB.out; omega))
            rw [HC9.out] at s9
            have HS9 := hid s9
            have hp2m : p2 ≤ 1000000 := by have := HLB.out; omega
            have hit' : decide (i < sk) = true := decide_eq_true hit
            have hit2 : decide ((i : Int) < (sk : Int)) = true := decide_eq_true (by omega)
            have HB0 := hid hbel.out
            clear s9 hp hp2
            go_wp2_with (fail)
            go_loopw [9] (fun kv wr => ∃ k : Nat, k ≤ i ∧ kv = .int .i64 k ∧ Hid (Below W.heap.size W wr)) (fun kv _ => i - (intOf kv).toNat)
            case atStart => exact ⟨0, by omega, rfl, HB0.out⟩
            case round =>
              clear hbel HB0
              obtain ⟨k, hk, rfl, hbel⟩ := hrel
              by_cases hkt : k < i
              · obtain ⟨t, ht⟩ : ∃ t, t = 256 * k := ⟨_, rfl⟩
                have wt : (256 : Int) * (k : Int) = (t : Int) := by omega
                obtain ⟨t2, ht2⟩ : ∃ t2, t2 = t + 256 := ⟨_, rfl⟩
                have wt2 : (t : Int) + 256 = (t2 : Int) := by omega
                obtain ⟨v8, e3, e4, s8⟩ := cut_all (P := Try.prog) W 23 3 Try.underlying23 Try.infoI64 .i64 (.slice ab lb cb) bs.flatten HO2.out (some (.int .i64 (t : Int))) (some (.int .i64 (t2 : Int))) t t2 (.inr ⟨_, rfl⟩) (.inr ⟨_, rfl⟩) (by omega) (by rw [HFL.out]; have := HLB.out; omega)
                have HC8 := hid (show (bs.flatten.drop t).take (t2 - t) = bs.getD k [] by rw [show t2 - t = 256 by omega, ht]; exact flat_drop HEACH.out (by have := HNB.out; omega))
                rw [HC8.out] at s8
                have HE : Hid (eqL (bs.getD i []) (bs.getD k []) = false) := hid (by
                  have := nodup_ne HNOD.out hkt (by rw [← HNB.out]; exact hit)
                  unfold eqL
                  exact decide_eq_false this)
                have HK := hid (fun u : Later wr => later_call (W := wr) (u := u) ((keepInts v9 v8 (bs.getD i []) (bs.getD k []) u.w (HS9.out u.w (HO2.out.below (hbel.out.trans (u.below.mono hbel.out.size)))) (s8 u.w (HO2.out.below (hbel.out.trans (u.below.mono hbel.out.size))))).mono (fun e w'' ⟨he, n, hn⟩ => (⟨he, by rw [hn]; exact below_drewN n⟩ : _ ∧ Below u.w.heap.size u.w w''))))
                rw [HE.out] at HK
                have ht2m : t2 ≤ 1000000 := by have := HLB.out; omega
                have hst := HST.out.below hbel.out HST.out.lt
                have x1 := hst.cell 1
                simp only [List.getElem?_cons_zero, List.getElem?_cons_succ] at x1
                have s1 := fun u : Later wr => u.cell x1
                clear s8 ht ht2 hst
                go_wp2_with (fail)
                refine region_later (by kernel_rfl) (by kernel_rfl) ?_
                repeat (go_big_quiet_step ((go_at_call 20; with_reducible exact HK.out _)))
                refine wpQuiet_nil ?_
                intro _ hw'
                obtain ⟨u, hw''⟩ := hw'
                subst hw''
                have HBU := hid (hbel.out.trans (u.below.mono hbel.out.size))
                go_wp2_with (fail)
                go_roundw
                case rel => exact ⟨k + 1, by omega, by go_num, HBU.out⟩
                case measure => simp [intOf]; omega
              · obtain rfl : k = i := by omega
                go_wp2_with (fail)
                go_roundw
                case rel => exact ⟨k + 1, by omega, by go_num, hbel.out⟩
                case measure => simp [intOf]; omega
          · obtain rfl : i = sk := by omega
            go_wp2_with (go_at_call 18; refine (lawWakes5 wr).mono ?_; rintro e w7 ⟨rfl, hb7⟩; have HB7 := hid (hbel.out.trans (hb7.mono hbel.out.size)); clear hb7)
            go_ret
            exact ⟨rfl, HB2.out.trans (HB7.out.mono HB2.out.size)⟩
  · have hf' : flatS L = false := by simpa using hf
    have HF := hid hf'
    clear hf hf'
    go_enter Try.func6, Try.ntmps6
    go_wp2_with (first
      | (go_at_call 7; refine HPK.out.mono ?_; rintro e w2 ⟨p1, p2, en, rfl, hr2, hb2⟩; obtain ⟨rfl, rfl, rfl⟩ := hr2.out2 HF.out; have HB2 := hid (hb2.alloc hb2.size (.cells #[.slice none 0 0, .slice none 0 0] 25)); clear hr2 hb2)
      | (go_at_call 18; refine (lawWakes5 _).mono ?_; rintro e w3 ⟨rfl, hb3⟩; have HB3 := hid (HB2.out.trans (hb3.mono HB2.out.size)); clear hb3))
    go_ret
    exact ⟨rfl, HB3.out⟩
end Go.Proofs.Ytlngnmcflooccaa
