/- The greatest numbers, and what is one too many: the walk of the statement. For every input. -/
import Derived.Test.YtihbgpgiladfkaaDoorOidWakes
import Derived.Test.YtihbgpgiladfkaaDoorIx
import Derived.Deep.Cut
namespace Go.Proofs.YtihbgpgiladfkaaDoor
open Go.RowKit

theorem nums_app : ∀ (ms zs : List Int), (∀ m ∈ ms, 0 ≤ m ∧ m ≤ maxN) → numsS false 0 (groups ms ++ zs) = (numsS false 0 zs).map fun ks => ms ++ ks
  | [], zs, _ => by simp [groups_nil]
  | m :: ms, zs, h => by
    have hm := h m (List.mem_cons_self ..)
    rw [groups_cons, List.append_assoc, nums_sept m _ hm.1 hm.2, nums_app ms zs fun x hx => h x (List.mem_cons_of_mem _ hx)]
    cases numsS false 0 zs <;> rfl
theorem ok_parts {l : List Int} (h : oidOk l = true) : ∃ ms, contentS l = groups ms ∧ (∀ m ∈ ms, 0 ≤ m ∧ m ≤ maxN) ∧ ms ≠ [] ∧ ms.length ≤ 39 := by
  match l, h with
  | [], h => simp [oidOk] at h
  | [_], h => simp [oidOk] at h
  | a :: b :: r, h =>
    obtain ⟨⟨h1, h2, h3, h4, h5, h6⟩, h7⟩ := (oidOk_iff a b r).1 h
    refine ⟨(40 * a + b) :: r, rfl, fun m hm => ?_, by simp, by simp; omega⟩
    rcases List.mem_cons.1 hm with rfl | hm
    · unfold maxN at h6 ⊢; omega
    · exact h7 m hm
theorem cont_len {l : List Int} (h : oidOk l = true) : 0 < (contentS l).length ∧ (contentS l).length ≤ 351 := by
  obtain ⟨ms, hc, hm, hne, hl⟩ := ok_parts h
  have h1 := groups_len ms hm
  rw [hc]
  refine ⟨?_, by omega⟩
  match ms, hne with
  | m :: r, _ =>
    rw [groups_cons]
    unfold sept
    simp
    omega
theorem sep8 : ∀ (c n : Nat), n ≤ c → U8 (septHi n)
  | c, n, h => by
    by_cases h0 : n = 0
    · rw [h0, septHi_zero]; exact U8.nil
    · match c with
      | 0 => omega
      | c + 1 =>
        rw [septHi_pos h0]
        exact (sep8 c (n / 128) (by omega)).append (U8.cons (by omega) U8.nil)
theorem cont_u8 {l : List Int} (h : oidOk l = true) : U8 (contentS l) := by
  obtain ⟨ms, hc, hm, hne, hl⟩ := ok_parts h
  rw [hc]
  clear hc hne hl hm
  induction ms with
  | nil => exact U8.nil
  | cons m r ih =>
    rw [groups_cons]
    refine U8.append ?_ ih
    unfold sept
    refine U8.append ?_ (U8.cons (by omega) U8.nil)
    exact sep8 _ _ (Nat.le_refl _)
theorem read_tail {l zs : List Int} (h : oidOk l = true) (hz : numsS false 0 zs = none) : readS (contentS l ++ zs) = none := by
  obtain ⟨ms, hc, hm, -, -⟩ := ok_parts h
  unfold readS
  rw [hc, nums_app ms zs hm, hz]
  rfl
theorem read_nought (ys : List Int) : readS ([128] ++ ys) = none := by
  unfold readS
  rw [List.singleton_append, numsS, if_pos (.inl ⟨rfl, rfl⟩)]
  rfl
theorem ed_3 : numsS false 0 [129] = none := by decide
theorem ed_4 : numsS false 0 [129, 128, 128, 128, 128, 128, 128, 128, 128, 0] = none := by decide
theorem ed_1 : parseS (sx ⟨#[50, 46, 53, 46, 57, 50, 50, 51, 51, 55, 50, 48, 51, 54, 56, 53, 52, 55, 55, 53, 56, 48, 56]⟩) = none := by
  show parseS [50, 46, 53, 46, 57, 50, 50, 51, 51, 55, 50, 48, 51, 54, 56, 53, 52, 55, 55, 53, 56, 48, 56] = _
  decide
theorem ed_2 : parseS (sx ⟨#[50, 46, 48, 53]⟩) = none := by
  show parseS [50, 46, 48, 53] = _
  decide
theorem ok_i64 {l : List Int} (h : oidOk l = true) : I64 l := by
  match l, h with
  | [], h => simp [oidOk] at h
  | [_], h => simp [oidOk] at h
  | a :: b :: r, h =>
    obtain ⟨⟨h1, h2, h3, h4, h5, h6⟩, h7⟩ := (oidOk_iff a b r).1 h
    intro x hx
    unfold maxN at h6 h7
    rcases List.mem_cons.1 hx with rfl | hx
    · omega
    rcases List.mem_cons.1 hx with rfl | hx
    · omega
    have := h7 x hx
    omega

set_option maxHeartbeats 2000000 in
theorem walkEdges (n how : Int) (w : World) (ht : Tab w) (hm : MaxL w) :
    Calls Tryd.prog 6 #[.int .i64 n, .int .i64 how] w fun e w' => e = .returned (.bool true) ∧ Below w.heap.size w w' := by
  obtain ⟨n0, n1⟩ := ixr n 40 (by decide) (by decide)
  have HM := hid (ixr' how 6 (by decide))
  go_enter Tryd.func6, Tryd.ntmps6
  go_upto_region 2 with (fail)
  generalize wrap64 ((IntKind.u64.wrap n).tmod 40) = N at n0 n1 ⊢
  go_wp2_with (fail)
  go_loopw [5] (fun lv wr => ∃ l : List Int, Hid (oidOk l = true) ∧ l.length ≤ 40 ∧ Hid (Own .i64 3 w.heap.size wr lv l) ∧ Hid (Below w.heap.size w wr)) (fun lv _ => 40 - lenV lv)
  case atStart =>
    refine ⟨[2, 9223372036854775727], ?_, by simp, lit_own rfl (Nat.le_refl _) rfl rfl (by simp), by (repeat (first | exact Below.refl _ _ | exact below_drewN _ | refine Below.drew ?_ | refine Below.alloc ?_ (by simp) _ | refine Below.setCell ?_ (by simp) _ | refine below_drewN' ?_ _))⟩
    show _ = _
    decide
  case round =>
    obtain ⟨l, hok, hl, hown, hbel⟩ := hrel
    obtain ⟨al, cl, hal⟩ := hown.out.sl.form
    subst hal
    have hsz := hbel.out.size
    by_cases hlt : (l.length : Int) < N
    · have hok2 := hid (ok_snoc hok.out (show l.length < 40 by omega) (show (0 : Int) ≤ 9223372036854775807 by omega) (by unfold maxN; omega))
      go_wp2_with (at_builtin; refine wpList_app _ rfl _ _ 22 rfl .i64 w.heap.size 3 8 Tryd.underlying22 Tryd.infoI64 _ l [9223372036854775807] rfl (hown.out.below (by (repeat (first | exact Below.refl _ _ | exact below_drewN _ | refine Below.drew ?_ | refine Below.alloc ?_ (by simp) _ | refine Below.setCell ?_ (by simp) _ | refine below_drewN' ?_ _)))) _ rfl (one_sl (by first | simp | rfl)) (by unfold maxLen; first | omega | (simp; omega) | simp) (by first | omega | (simp; omega) | simp) (by first | omega | (simp; omega) | simp) ?_; intro v5 w5 ho5 hg5 hb5 hn5; clear hg5 hn5)
      go_roundw
      case rel =>
        refine ⟨l ++ [9223372036854775807], hok2.out, by simp; omega, ho5, hbel.out.trans (Below.trans ?_ hb5)⟩
        (repeat (first | exact Below.refl _ _ | exact below_drewN _ | refine Below.drew ?_ | refine Below.alloc ?_ (by simp; omega) _ | refine Below.alloc ?_ (by omega) _ | refine Below.setCell ?_ (by simp; omega) _ | refine below_drewN' ?_ _))
      case measure =>
        obtain ⟨a5, c5, e5⟩ := ho5.sl.form
        rw [e5]
        simp [lenV]
        omega
    · have hge : N ≤ (l.length : Int) := by omega
      have HC := hid (chk_ok hok.out)
      have HOK := hid hok.out
      have HX : Hid (contX l = contentS l) := hid (by unfold contX; rw [if_pos hok.out])
      have HR := hid (read_back l hok.out)
      have HU := hid (cont_u8 hok.out)
      obtain ⟨k0, k1⟩ := cont_len hok.out
      have HI := hid (ok_i64 hok.out)
      obtain ⟨cs, hcs⟩ : ∃ cs, cs = contentS l := ⟨_, rfl⟩
      rw [← hcs] at HX HR HU k0 k1
      have HCS := hid hcs
      have hc0 : ((cs.length : Int) == 0) = false := beq_eq_false_iff_ne.2 (by omega)
      clear hcs hlt
      go_upto_region 10 with (first
        | (go_at_call 8; go_loud (refine (oidContent _ l _ hown.out.sl HI.out).mono ?_; rw [HX.out, HC.out]; rintro e w2 ⟨v2, rfl, ho2, hb2⟩; obtain ⟨a2, c2, hv2⟩ := ho2.sl.form; subst hv2; have HO2 := hid ho2; have HB2 := hid (hbel.out.trans (hb2.mono hsz)); have HOL := hid (hown.out.below hb2); clear ho2 hb2))
        | (go_at_call 10; go_loud (refine (oidRead _ cs _ HO2.out.sl HU.out (by omega)).mono ?_; rw [HR.out, show errO (some l) = 0 from rfl]; rintro e w3 ⟨v3, rfl, ho3, hb3⟩; have HO3 := hid ho3; have HB3 := hid (HB2.out.trans (hb3.mono HB2.out.size)); have HOL3 := hid (HOL.out.below hb3); have HOC := hid (HO2.out.below hb3); clear ho3 hb3))
        | (go_at_call 14; go_loud (refine (keepInts _ _ l l _ HO3.out.sl HOL3.out.sl).mono ?_; rw [eqL_self]; rintro e w4 ⟨rfl, n4, rfl⟩)))
      have HBW := hid (below_drewN' HB3.out n4)
      have HOW := hid ((HOC.out.mono hsz).drewN n4)
      generalize w3.drewN n4 = W at HBW HOW ⊢
      have hzW := HBW.out.size
      obtain ⟨m0, m1⟩ := HM.out
      clear HM
      generalize hMM : (IntKind.u64.wrap how).tmod 6 = M at m0 m1
      have hM : M = 0 ∨ M = 1 ∨ M = 2 ∨ M = 3 ∨ M = 4 ∨ M = 5 := by omega
      clear m0 m1 hsz hl hge hown hok HX HR HC
      rcases hM with rfl | rfl | rfl | rfl | rfl | rfl
      · go_wp2_with (first
        | (at_builtin; go_loud (refine wpList_app _ rfl _ _ 23 rfl .u8 w.heap.size 5 1 Tryd.underlying23 Tryd.infoU8 _ [128] cs rfl (lit_own rfl hzW rfl rfl (by simp)) _ rfl (HOW.out.sl.below (by (repeat (first | exact Below.refl _ _ | exact below_drewN _ | refine Below.drew ?_ | refine Below.alloc ?_ (by simp) _ | refine Below.setCell ?_ (by simp) _ | refine below_drewN' ?_ _)))) (by unfold maxLen; first | omega | (simp; omega) | simp) (by first | omega | (simp; omega) | simp) (by first | omega | (simp; omega) | simp) ?_); intro v5 w5 ho5 hg5 hb5 hn5; clear hg5 hn5; obtain ⟨a5, c5, hv5⟩ := ho5.sl.form; (rw [show ([(128 : Int)] ++ cs).length = cs.length + 1 by simp] at hv5); subst hv5; have HO5 := hid ho5; have HB5 := hid (HBW.out.trans (Below.trans (show Below w.heap.size W _ by (repeat (first | exact Below.refl _ _ | exact below_drewN _ | refine Below.drew ?_ | refine Below.alloc ?_ (by simp; omega) _ | refine Below.alloc ?_ (by omega) _ | refine Below.setCell ?_ (by simp; omega) _ | refine below_drewN' ?_ _))) hb5)); clear ho5 hb5)
        | (go_at_call 10; go_loud (refine (oidRead _ ([128] ++ cs) _ HO5.out.sl ((U8.cons (by omega) HU.out)) (by simp; omega)).mono ?_; rw [read_nought cs, show errO none = 8 from rfl]; rintro e w6 ⟨v6, rfl, ho6, hb6⟩; have HBR := hid (HB5.out.trans (hb6.mono HB5.out.size)); clear ho6 hb6))
        | (go_at_call 17; refine (lawWakes _ (ht.below HBR.out) (hm.below HBR.out)).mono ?_; rintro e w7 ⟨rfl, hb7⟩; have HB7 := hid (HBR.out.trans (hb7.mono HBR.out.size)); clear hb7))
        go_ret
        exact ⟨rfl, HB7.out⟩
      · go_wp2_with (first
        | (go_at_call 11; go_loud (refine (oidParse _ _ (hm.below HBW.out) (by simp [ByteArray.size])).mono ?_; rw [ed_1, show errO none = 8 from rfl]; rintro e w6 ⟨v6, rfl, ho6, hb6⟩; have HBR := hid (HBW.out.trans (hb6.mono HBW.out.size)); clear ho6 hb6))
        | (go_at_call 17; refine (lawWakes _ (ht.below HBR.out) (hm.below HBR.out)).mono ?_; rintro e w7 ⟨rfl, hb7⟩; have HB7 := hid (HBR.out.trans (hb7.mono HBR.out.size)); clear hb7))
        go_ret
        exact ⟨rfl, HB7.out⟩
      · go_wp2_with (first
        | (go_at_call 11; go_loud (refine (oidParse _ _ (hm.below HBW.out) (by simp [ByteArray.size])).mono ?_; rw [ed_2, show errO none = 8 from rfl]; rintro e w6 ⟨v6, rfl, ho6, hb6⟩; have HBR := hid (HBW.out.trans (hb6.mono HBW.out.size)); clear ho6 hb6))
        | (go_at_call 17; refine (lawWakes _ (ht.below HBR.out) (hm.below HBR.out)).mono ?_; rintro e w7 ⟨rfl, hb7⟩; have HB7 := hid (HBR.out.trans (hb7.mono HBR.out.size)); clear hb7))
        go_ret
        exact ⟨rfl, HB7.out⟩
      · have HN : Hid (readS (cs ++ [129]) = none) := hid (by rw [HCS.out]; exact read_tail (l := l) HOK.out ed_3)
        go_wp2_with (first
        | (at_builtin; go_loud (refine wpList_app _ rfl _ _ 23 rfl .u8 w.heap.size 5 1 Tryd.underlying23 Tryd.infoU8 _ cs [129] rfl (HOW.out.below (by (repeat (first | exact Below.refl _ _ | exact below_drewN _ | refine Below.drew ?_ | refine Below.alloc ?_ (by simp) _ | refine Below.setCell ?_ (by simp) _ | refine below_drewN' ?_ _)))) _ rfl (one_sl (by first | simp | rfl)) (by unfold maxLen; first | omega | (simp; omega) | simp) (by first | omega | (simp; omega) | simp) (by first | omega | (simp; omega) | simp) ?_); intro v5 w5 ho5 hg5 hb5 hn5; clear hg5 hn5; obtain ⟨a5, c5, hv5⟩ := ho5.sl.form; (rw [show (cs ++ [(129 : Int)]).length = cs.length + 1 by simp] at hv5); subst hv5; have HO5 := hid ho5; have HB5 := hid (HBW.out.trans (Below.trans (show Below w.heap.size W _ by (repeat (first | exact Below.refl _ _ | exact below_drewN _ | refine Below.drew ?_ | refine Below.alloc ?_ (by simp; omega) _ | refine Below.alloc ?_ (by omega) _ | refine Below.setCell ?_ (by simp; omega) _ | refine below_drewN' ?_ _))) hb5)); clear ho5 hb5)
        | (go_at_call 10; go_loud (refine (oidRead _ (cs ++ [129]) _ HO5.out.sl ((U8.append HU.out (u8_lit (by decide)))) (by simp; omega)).mono ?_; rw [HN.out, show errO none = 8 from rfl]; rintro e w6 ⟨v6, rfl, ho6, hb6⟩; have HBR := hid (HB5.out.trans (hb6.mono HB5.out.size)); clear ho6 hb6))
        | (go_at_call 17; refine (lawWakes _ (ht.below HBR.out) (hm.below HBR.out)).mono ?_; rintro e w7 ⟨rfl, hb7⟩; have HB7 := hid (HBR.out.trans (hb7.mono HBR.out.size)); clear hb7))
        go_ret
        exact ⟨rfl, HB7.out⟩
      · have HN : Hid (readS (cs ++ [129, 128, 128, 128, 128, 128, 128, 128, 128, 0]) = none) := hid (by rw [HCS.out]; exact read_tail (l := l) HOK.out ed_4)
        go_wp2_with (first
        | (at_builtin; go_loud (refine wpList_app _ rfl _ _ 23 rfl .u8 w.heap.size 5 1 Tryd.underlying23 Tryd.infoU8 _ cs [129, 128, 128, 128, 128, 128, 128, 128, 128, 0] rfl (HOW.out.below (by (repeat (first | exact Below.refl _ _ | exact below_drewN _ | refine Below.drew ?_ | refine Below.alloc ?_ (by simp) _ | refine Below.setCell ?_ (by simp) _ | refine below_drewN' ?_ _)))) _ rfl (lit_sl (by first | simp | rfl) rfl rfl (by simp)) (by unfold maxLen; first | omega | (simp; omega) | simp) (by first | omega | (simp; omega) | simp) (by first | omega | (simp; omega) | simp) ?_); intro v5 w5 ho5 hg5 hb5 hn5; clear hg5 hn5; obtain ⟨a5, c5, hv5⟩ := ho5.sl.form; (rw [show (cs ++ [(129 : Int), 128, 128, 128, 128, 128, 128, 128, 128, 0]).length = cs.length + 10 by simp] at hv5); subst hv5; have HO5 := hid ho5; have HB5 := hid (HBW.out.trans (Below.trans (show Below w.heap.size W _ by (repeat (first | exact Below.refl _ _ | exact below_drewN _ | refine Below.drew ?_ | refine Below.alloc ?_ (by simp; omega) _ | refine Below.alloc ?_ (by omega) _ | refine Below.setCell ?_ (by simp; omega) _ | refine below_drewN' ?_ _))) hb5)); clear ho5 hb5)
        | (go_at_call 10; go_loud (refine (oidRead _ (cs ++ [129, 128, 128, 128, 128, 128, 128, 128, 128, 0]) _ HO5.out.sl ((U8.append HU.out (u8_lit (by decide)))) (by simp; omega)).mono ?_; rw [HN.out, show errO none = 8 from rfl]; rintro e w6 ⟨v6, rfl, ho6, hb6⟩; have HBR := hid (HB5.out.trans (hb6.mono HB5.out.size)); clear ho6 hb6))
        | (go_at_call 17; refine (lawWakes _ (ht.below HBR.out) (hm.below HBR.out)).mono ?_; rintro e w7 ⟨rfl, hb7⟩; have HB7 := hid (HBR.out.trans (hb7.mono HBR.out.size)); clear hb7))
        go_ret
        exact ⟨rfl, HB7.out⟩
      · go_wp2_with (fail)
        go_loopw [11] (fun lv wx => ∃ ks : List Int, Hid (I64 ks) ∧ ks.length ≤ 41 ∧ Hid (Own .i64 3 w.heap.size wx lv ks) ∧ Hid (Below w.heap.size w wx)) (fun lv _ => 41 - lenV lv)
        case atStart =>
          exact ⟨[1, 2], i64_lit (by decide), by simp, lit_own rfl hzW rfl rfl (by simp), HBW.out.trans (Below.alloc (Below.refl _ _) hzW _)⟩
        case round =>
          obtain ⟨ks, hki, hkl, hko, hkb⟩ := hrel
          obtain ⟨ak, ck, hak⟩ := hko.out.sl.form
          subst hak
          have hzx := hkb.out.size
          by_cases hlt : ks.length < 41
          · have hki2 : Hid (I64 (ks ++ [3])) := hid fun x hx => by
              rcases List.mem_append.1 hx with hx | hx
              · exact hki.out x hx
              · simp at hx
                omega
            go_wp2_with (at_builtin; refine wpList_app _ rfl _ _ 22 rfl .i64 w.heap.size 3 8 Tryd.underlying22 Tryd.infoI64 _ ks [3] rfl (hko.out.below (by (repeat (first | exact Below.refl _ _ | exact below_drewN _ | refine Below.drew ?_ | refine Below.alloc ?_ (by simp) _ | refine Below.setCell ?_ (by simp) _ | refine below_drewN' ?_ _)))) _ rfl (one_sl (by first | simp | rfl)) (by unfold maxLen; first | omega | (simp; omega) | simp) (by first | omega | (simp; omega) | simp) (by first | omega | (simp; omega) | simp) ?_; intro v5 w5 ho5 hg5 hb5 hn5; clear hg5 hn5)
            go_roundw
            case rel =>
              refine ⟨ks ++ [3], hki2.out, by simp; omega, ho5, hkb.out.trans (Below.trans ?_ hb5)⟩
              (repeat (first | exact Below.refl _ _ | exact below_drewN _ | refine Below.drew ?_ | refine Below.alloc ?_ (by simp; omega) _ | refine Below.alloc ?_ (by omega) _ | refine Below.setCell ?_ (by simp; omega) _ | refine below_drewN' ?_ _))
            case measure =>
              obtain ⟨a5, c5, e5⟩ := ho5.sl.form
              rw [e5]
              simp [lenV]
              omega
          · have hcl := hid (chk_long (xs := ks) (by omega))
            have hge2 : (41 : Int) ≤ (ks.length : Int) := by omega
            have hge3 : 41 ≤ ks.length := by omega
            have hl99 : ks.length ≤ 99 := by omega
            clear hlt hkl
            go_wp2_with (first
              | (go_at_call 16; refine (oidCheck _ ks _ hko.out.sl hki.out).mono ?_; rw [hcl.out]; rintro e w6 ⟨rfl, n6, rfl⟩)
              | (go_at_call 17; refine (lawWakes _ (ht.below (below_drewN' hkb.out n6)) (hm.below (below_drewN' hkb.out n6))).mono ?_; rintro e w7 ⟨rfl, hb7⟩; have HB7 := hid ((below_drewN' hkb.out n6).trans (hb7.mono hzx)); clear hb7))
            go_ret
            exact ⟨rfl, HB7.out⟩
end Go.Proofs.YtihbgpgiladfkaaDoor
