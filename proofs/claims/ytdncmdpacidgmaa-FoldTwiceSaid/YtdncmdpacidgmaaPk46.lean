/- Several texts in one: ItS7, ItS8, Ord9a, Ord9b. -/
import Derived.Test.YtdncmdpacidgmaaPk45
import Derived.Test.YtdncmdpacidgmaaPk43
import Derived.Test.YtdncmdpacidgmaaPk44
/-! ItS7 -/
namespace Go.Proofs.Ytdncmdpacidgmaa
open Go.RowKit

theorem symAllI (it : List (Int × Int)) (g off cap n : Nat) (pre post : List Value) (l : List (List Int)) (hlc : l = lcl it) (hn : n ≤ 1000000) : ∀ N, SymAtI it g off cap n N pre post l
  | 0 => fun A L R C a m b w hb hp ha hm hbb hL hR hN => by omega
  | N + 1 => fun A L R C a m b w hb hp ha hm hbb hL hR hN h1 h2 h3 h4 => by
    rcases Nat.lt_or_ge 1 L.length with hl | hl
    · rcases Nat.lt_or_ge 1 R.length with hr | hr
      · exact symGenI it g off cap n N pre post l hlc hn (symAllI it g off cap n pre post l hlc hn N) A L R C a m b w hb hp ha hm hbb hl hr hN h1 h2 h3 h4
      · obtain ⟨y, rfl⟩ := List.length_eq_one_iff.1 (show R.length = 1 by omega)
        exact symRightI it g off cap n pre post l hlc A L C y a m b w hb (by simpa using hp) hn ha hm (by simpa using hbb) hl (h1 y (by simp)) (fun x hx => h2 x hx y (by simp)) h3
    · obtain ⟨x, rfl⟩ := List.length_eq_one_iff.1 (show L.length = 1 by omega)
      have hy : R.getD 0 0 ∈ R := getD_mem hR
      exact symLeftI it g off cap n pre post l hlc A R C x a m b w hb (by simpa using hp) hn ha (by simpa using hm) hbb (Nat.lt_trans (h2 x (by simp) _ hy) (h1 _ hy)) (fun y hy => ⟨h2 x (by simp) y hy, h1 y hy⟩) h4

set_option maxHeartbeats 4000000 in
set_option maxRecDepth 100000 in
theorem insNoneI (g off cap n a : Nat) (cb : Value) (w : World) (hn : a ≤ 1000000) :
    Calls Try.prog 79 #[.slice (some ⟨g, off, none⟩) n cap, .int .i64 a, .int .i64 a, cb] w fun e w' => e = .returned (.tuple #[]) ∧ w = w' := by
  go_enter Try.func79, Try.ntmps79
  go_wp2
  go_loopw [8] (fun iv wr => iv = .int .i64 (a + 1 : Nat) ∧ w = wr) (fun iv _ => 0)
  case atStart => exact ⟨by go_num, rfl⟩
  case round =>
    obtain ⟨rfl, rfl⟩ := hrel
    go_wp2
    go_end0
    exact ⟨rfl, rfl⟩

set_option maxHeartbeats 4000000 in
set_option maxRecDepth 100000 in
theorem insSomeI (it : List (Int × Int)) (g off cap n : Nat) (pre post : List Value) (l : List (List Int)) (hlc : l = lcl it) (A C : List Nat) (a b : Nat) (w : World) (hb : Rit0 it g off pre post (A ++ List.range' a (b - a) ++ C) w) (hp : A.length + (b - a) + C.length = n) (hn : n ≤ 1000000)
    (ha : a = A.length) (hab : a < b) (hl : b ≤ l.length) :
    Calls Try.prog 79 #[.slice (some ⟨g, off, none⟩) n cap, .int .i64 a, .int .i64 b, .func (.func 60) #[] #[]] w fun e w' => e = .returned (.tuple #[]) ∧
      ∃ M, M.Perm (List.range' a (b - a)) ∧ M.Pairwise (ilt l) ∧ Rit it g off pre post w (A ++ M ++ C) w' := by
  have HR := hid (Rit.refl hb)
  have HLC := hid hlc
  have hbn : b ≤ n := by omega
  have HA := hid (show a = A.length ∧ A.length + (b - a) + C.length = n ∧ b ≤ l.length from ⟨ha, hp, hl⟩)
  obtain ⟨i0, hi0, hz0, hz1, hz2⟩ := info_parts Try.infoItem
  clear hb hlc ha hp hl
  go_enter Try.func79, Try.ntmps79
  go_wp2
  go_loopw [8] (fun iv wr => ∃ (i : Nat) (S : List Nat), iv = .int .i64 i ∧ a < i ∧ i ≤ b ∧ Hid (S.Perm (List.range' a (i - a)) ∧ S.Pairwise (ilt l)) ∧ Hid (Rit it g off pre post w (A ++ S ++ (List.range' i (b - i) ++ C)) wr)) (fun iv _ => b - (intOf iv).toNat)
  case atStart =>
    refine ⟨a + 1, [a], by go_num, by omega, by omega, ⟨by rw [Nat.add_sub_cancel_left]; exact List.Perm.refl _, List.pairwise_singleton _ _⟩, ?_⟩
    have h := HR.out
    rw [show b - a = (b - (a + 1)) + 1 by omega, List.range'_succ] at h
    have h2 : Rit it g off pre post w (A ++ [a] ++ (List.range' (a + 1) (b - (a + 1)) ++ C)) w := by simpa using h
    exact h2
  case round =>
    obtain ⟨i, S, rfl, hai, hib, hS, hr⟩ := hrel
    by_cases hlt : i < b
    · have hSl : S.length = i - a := by have := hS.out.1.length_eq; simpa using this
      have hSm : ∀ y ∈ S, y < i := fun y hy => by
        have := hS.out.1.mem_iff.1 hy
        rw [List.mem_range'_1] at this
        omega
      obtain ⟨T, hT⟩ : ∃ T, T = List.range' (i + 1) (b - (i + 1)) ++ C := ⟨_, rfl⟩
      have HR1 : Hid (Rit it g off pre post w (shL A S T i S.length) wr) := hid (by
        rw [shL_full, hT]
        have h := hr.out
        rw [show b - i = (b - (i + 1)) + 1 by omega, List.range'_succ] at h
        simpa using h)
      have HT := hid (show T = List.range' (i + 1) (b - (i + 1)) ++ C ∧ A.length + S.length + 1 + T.length = n from ⟨hT, by rw [hT]; have := HA.out; simp; omega⟩)
      have HSM := hid hSm
      have HSL := hid hSl
      clear hT hSm hSl hr
      go_wp2
      go_loopw [9] (fun jv wi => ∃ (j c : Nat), jv = .int .i64 j ∧ a ≤ j ∧ j ≤ i ∧ Hid (j = a + c ∧ c ≤ S.length) ∧ Hid (c = S.length ∨ ilt l i (S.getD c 0)) ∧ Hid (Rit it g off pre post w (shL A S T i c) wi)) (fun jv _ => (intOf jv).toNat)
      case atStart => exact ⟨i, S.length, rfl, by omega, by omega, ⟨by have := HSL.out; omega, Nat.le_refl _⟩, .inl rfl, HR1.out⟩
      case round =>
        obtain ⟨j, c, rfl, haj, hji, hjc, hord, hr⟩ := hrel
        have HEND : Hid (c = 0 ∨ ilt l (S.getD (c - 1) 0) i → ∀ wz, Rit it g off pre post w (shL A S T i c) wz → ∃ (S' : List Nat), (S'.Perm (List.range' a (i + 1 - a)) ∧ S'.Pairwise (ilt l)) ∧ Rit it g off pre post w (A ++ S' ++ (List.range' (i + 1) (b - (i + 1)) ++ C)) wz) := hid fun h wz hz => by
          refine ⟨S.take c ++ i :: S.drop c, ⟨?_, pw_put hS.out.2 hjc.out.2 h hord.out⟩, ?_⟩
          · refine (put_perm S i c).trans ?_
            rw [show i + 1 - a = (i - a) + 1 by omega, List.range'_concat]
            refine (List.Perm.cons i hS.out.1).trans ?_
            rw [show a + 1 * (i - a) = i by omega]
            exact List.perm_append_comm (l₁ := [i]) (l₂ := List.range' a (i - a))
          · rw [← HT.out.1, ← shL_end]; exact hz
        by_cases hja : a < j
        · have hjg : decide ((j : Int) > (a : Int)) = true := decide_eq_true (by omega)
          obtain ⟨c, rfl⟩ : ∃ c', c = c' + 1 := ⟨c - 1, by have := hjc.out; omega⟩
          obtain ⟨j1, hj1⟩ : ∃ j1, j1 = j - 1 := ⟨_, rfl⟩
          have hcS : c < S.length := by have := hjc.out; omega
          have hst := shL_back (A := A) (L := S) (C := T) (y := i) (c := c) hcS
          have e1 : (shL A S T i (c + 1)).getD j 0 = i := shL_x (by omega) (by have := hjc.out; have := HA.out; omega)
          have e2 : (shL A S T i (c + 1)).getD j1 0 = S.getD c 0 := shL_y hcS (by have := hjc.out; have := HA.out; omega)
          rw [← HA.out.1, show a + c + 1 = j by have := hjc.out; omega, show a + c = j1 by have := hjc.out; omega] at hst
          have HST := hid hst
          have hpl : (shL A S T i (c + 1)).length = n := by rw [shL_len]; have := HT.out; omega
          obtain ⟨c1, c1'⟩ := hr.out.at (i := j) (by omega)
          obtain ⟨c2, c2'⟩ := hr.out.at (i := j1) (by omega)
          rw [e1] at c1 c1'
          rw [e2] at c2 c2'
          obtain ⟨y, hy⟩ : ∃ y, y = S.getD c 0 := ⟨_, rfl⟩
          rw [← hy] at c2 c2'
          have hyi : y < i := HSM.out y (by rw [hy]; exact getD_mem hcS)
          have HY := hid hy
          have HYI := hid hyi
          have HJL := hid (show j < (shL A S T i (c + 1)).length ∧ j1 < (shL A S T i (c + 1)).length ∧ (shL A S T i (c + 1)).getD j 0 = i ∧ (shL A S T i (c + 1)).getD j1 0 = y from ⟨by omega, by omega, e1, by rw [hy]; exact e2⟩)
          obtain ⟨xn, hxn⟩ : ∃ n, n = (it.getD i noIt).1 := ⟨_, rfl⟩
          obtain ⟨xc, hxc⟩ : ∃ n, n = (it.getD i noIt).2 := ⟨_, rfl⟩
          obtain ⟨yn, hyn⟩ : ∃ n, n = (it.getD y noIt).1 := ⟨_, rfl⟩
          obtain ⟨yc, hyc⟩ : ∃ n, n = (it.getD y noIt).2 := ⟨_, rfl⟩
          rw [← hyn] at c2
          rw [← hyc] at c2'
          rw [← hxn] at c1
          rw [← hxc] at c1'
          have hil : i < l.length := by have := HA.out; omega
          have HLT := hid (cmpI_lt HLC.out hyi hil hxc hyc)
          have HGE := hid (cmpI_ge HLC.out hyi hil hxc hyc)
          have HVV := hid (show xn = (it.getD i noIt).1 ∧ xc = (it.getD i noIt).2 ∧ yn = (it.getD y noIt).1 ∧ yc = (it.getD y noIt).2 from ⟨hxn, hxc, hyn, hyc⟩)
          have s1 := fun u : Later wr => u.cell c1
          have s1' := fun u : Later wr => u.cell c1'
          have s2 := fun u : Later wr => u.cell c2
          have s2' := fun u : Later wr => u.cell c2'
          have HCM := hid (fun u : Later wr => later_call (byClass xn xc yn yc u.w))
          clear hxn hxc hyn hyc c1 c1' c2 c2'
          have w6 : (j : Int) - 1 = (j1 : Int) := by omega
          have n1 : j ≠ j1 := by omega
          have n2 : j1 ≠ j := by omega
          have b1 : j < n := by omega
          have b2 : j1 < n := by omega
          have HJ1 := hid (show j = j1 + 1 by omega)
          have HCS := hid hcS
          clear hst hpl e1 e2 hy hyi hcS hj1 hil
          go_wp2_with (fail)
          refine region_later (by kernel_rfl) (by kernel_rfl) ?_
          repeat (go_big_quiet_step (first | (go_at_call 60; with_reducible exact HCM.out _)))
          refine wpQuiet_nil ?_
          intro _ hw'
          obtain ⟨u, hw''⟩ := hw'
          subst hw''
          have HRU := hid (hr.out.below u.below)
          clear s1 s1' s2 s2'
          generalize u.w = wk at HRU ⊢
          obtain ⟨z, hz⟩ : ∃ z, z = cmpI xc yc := ⟨_, rfl⟩
          rw [← hz] at HLT HGE ⊢
          clear hz
          by_cases he : z < 0
          · have HN : Hid (ilt l i (S.getD c 0)) := hid (by rw [← HY.out]; exact HLT.out.1 (by omega))
            obtain ⟨c1, c1'⟩ := HRU.out.at (i := j) HJL.out.1
            obtain ⟨c2, c2'⟩ := HRU.out.at (i := j1) HJL.out.2.1
            rw [HJL.out.2.2.1, ← HVV.out.1] at c1
            rw [HJL.out.2.2.1, ← HVV.out.2.1] at c1'
            rw [HJL.out.2.2.2, ← HVV.out.2.2.1] at c2
            rw [HJL.out.2.2.2, ← HVV.out.2.2.2] at c2'
            have f1 := HRU.out.ice (off + j * 2)
            have f1' := HRU.out.ice (off + j * 2 + 1)
            have f2 := HRU.out.ice (off + j1 * 2)
            have f2' := HRU.out.ice (off + j1 * 2 + 1)
            clear HEND hr
            go_wp2_with (fail)
            go_big_region
            all_goals go_wp2
            go_roundw
            case rel => exact ⟨j1, c, by first | rfl | go_num, by omega, by omega, ⟨by have := hjc.out; have := HJ1.out; omega, by have := HCS.out; omega⟩, .inr HN.out, by rw [← HST.out]; exact (HRU.out.swap j j1 HJL.out.1 HJL.out.2.1 (by rw [HJL.out.2.2.1]; exact HVV.out.1) (by rw [HJL.out.2.2.1]; exact HVV.out.2.1) (by rw [HJL.out.2.2.2]; exact HVV.out.2.2.1) (by rw [HJL.out.2.2.2]; exact HVV.out.2.2.2)).drewN 1⟩
            case measure => have := HJ1.out; simp [intOf]; omega
          · have HN : Hid (c + 1 = 0 ∨ ilt l (S.getD (c + 1 - 1) 0) i) := hid (.inr (by rw [Nat.add_sub_cancel, ← HY.out]; exact HGE.out.1 (by omega)))
            obtain ⟨S', hS', hR'⟩ := HEND.out HN.out _ HRU.out
            have HS2 := hid hS'
            have HR2 := hid hR'
            clear hS' hR' HEND
            go_wp2
            go_roundw
            case rel => exact ⟨i + 1, S', by go_num, by omega, by omega, HS2.out, HR2.out⟩
            case measure => simp [intOf]; omega
        · have hjg : decide ((j : Int) > (a : Int)) = false := decide_eq_false (by omega)
          obtain rfl : j = a := by omega
          obtain ⟨S', hS', hR'⟩ := HEND.out (.inl (by have := hjc.out; omega)) _ (hr.out.drewN 1)
          have HS2 := hid hS'
          have HR2 := hid hR'
          clear hS' hR' HEND
          go_wp2_with (fail)
          go_big_region
          all_goals go_wp2
          go_roundw
          case rel => exact ⟨i + 1, S', by go_num, by omega, by omega, HS2.out, HR2.out⟩
          case measure => simp [intOf]; omega
    · obtain rfl : i = b := by omega
      go_wp2
      go_end0
      refine ⟨rfl, S, hS.out.1, hS.out.2, ?_⟩
      have h := hr.out
      simpa using h
end Go.Proofs.Ytdncmdpacidgmaa

/-! ItS8 -/
namespace Go.Proofs.Ytdncmdpacidgmaa
open Go.RowKit

theorem insAnyI (it : List (Int × Int)) (g off cap n : Nat) (pre post : List Value) (l : List (List Int)) (hlc : l = lcl it) (A C : List Nat) (a b : Nat) (w : World) (hb : Rit0 it g off pre post (A ++ List.range' a (b - a) ++ C) w) (hp : A.length + (b - a) + C.length = n) (hn : n ≤ 1000000)
    (ha : a = A.length) (hab : a ≤ b) (hl : b ≤ l.length) :
    Calls Try.prog 79 #[.slice (some ⟨g, off, none⟩) n cap, .int .i64 a, .int .i64 b, .func (.func 60) #[] #[]] w fun e w' => e = .returned (.tuple #[]) ∧
      ∃ M, M.Perm (List.range' a (b - a)) ∧ M.Pairwise (ilt l) ∧ Rit it g off pre post w (A ++ M ++ C) w' := by
  rcases Nat.lt_or_ge a b with h | h
  · exact insSomeI it g off cap n pre post l hlc A C a b w hb hp hn ha h hl
  · obtain rfl : a = b := by omega
    refine (insNoneI g off cap n a _ w (by omega)).mono ?_
    rintro e w' ⟨rfl, rfl⟩
    refine ⟨rfl, [], by rw [Nat.sub_self]; exact List.Perm.refl _, List.Pairwise.nil, ?_⟩
    rw [Nat.sub_self] at hb
    exact Rit.refl hb
set_option maxHeartbeats 4000000 in
set_option maxRecDepth 100000 in
theorem stableItems (it : List (Int × Int)) (g off cap n : Nat) (pre post : List Value) (l : List (List Int)) (hlc : l = lcl it) (w : World) (hb : Rit0 it g off pre post (List.range' 0 n) w) (hn : n ≤ 1000000) (hl : n = l.length) :
    Calls Try.prog 72 #[.slice (some ⟨g, off, none⟩) n cap, .int .i64 n, .func (.func 60) #[] #[]] w fun e w' => e = .returned (.tuple #[]) ∧
      ∃ M, IsPl l n M ∧ Rit it g off pre post w M w' := by
  have HR := hid (Rit.refl hb)
  have HLC := hid hlc
  have HL := hid hl
  clear hb hlc hl
  go_enter Try.func72, Try.ntmps72
  go_wp2
  go_loopw [7, 8] (fun av bv wr => ∃ (a b : Nat) (A : List Nat), av = .int .i64 a ∧ bv = .int .i64 b ∧ a ≤ n ∧ Hid (b = a + 20 ∧ a = A.length ∧ Pre l 20 a A) ∧ b ≤ n + 20 ∧ Hid (Rit it g off pre post w (A ++ List.range' a (n - a)) wr)) (fun _ bv _ => n + 20 - (intOf bv).toNat)
  case atStart => exact ⟨0, 20, [], rfl, rfl, by omega, ⟨rfl, rfl, Pre.nil _ _⟩, by omega, by rw [List.nil_append, Nat.sub_zero]; exact HR.out⟩
  case round =>
    obtain ⟨a, b, A, rfl, rfl, ha, hab, hbn, hr⟩ := hrel
    by_cases hlt : b ≤ n
    · have HBX : Hid (Rit0 it g off pre post (A ++ List.range' a (b - a) ++ List.range' b (n - b)) wr) := hid (by
        have h := hr.out.1
        rw [show n - a = (b - a) + (n - b) by have := hab.out; omega, ← List.range'_append_1, show a + (b - a) = b by have := hab.out; omega, ← List.append_assoc] at h
        exact h)
      go_wp2_with (go_at_call 79; refine (insSomeI it g off cap n pre post l HLC.out A (List.range' b (n - b)) a b wr HBX.out (by have := hab.out; simp only [List.length_range']; omega) (by omega) hab.out.2.1 (by have := hab.out; omega) (by have := HL.out; omega)).mono ?_; rintro e5 w5 ⟨rfl, M, hp5, hs5, hr5⟩; have HP5 := hid hp5; have HS5 := hid hs5; have HR5 := hid (hr.out.trans hr5); clear hp5 hs5 hr5)
      have HM : Hid (M.length = 20) := hid (by have := HP5.out.length_eq; have := hab.out; simp only [List.length_range'] at *; omega)
      go_roundw
      case rel => exact ⟨b, b + 20, A ++ M, rfl, by first | rfl | go_num, hlt, ⟨rfl, by have := hab.out; have := HM.out; simp only [List.length_append]; omega, by have h := hab.out.2.2.next HM.out (by have := HP5.out; rwa [show b - a = M.length by have := hab.out; have := HM.out; omega] at this) HS5.out; rwa [← hab.out.1] at h⟩, by omega, HR5.out⟩
      case measure => simp [intOf]; omega
    · have HBX : Hid (Rit0 it g off pre post (A ++ List.range' a (n - a) ++ []) wr) := hid (by rw [List.append_nil]; exact hr.out.1)
      go_wp2_with (go_at_call 79; refine (insAnyI it g off cap n pre post l HLC.out A [] a n wr HBX.out (by have := hab.out; simp only [List.length_nil]; omega) (by omega) hab.out.2.1 ha (by have := HL.out; omega)).mono ?_; rintro e5 w5 ⟨rfl, M, hp5, hs5, hr5⟩; have HP5 := hid hp5; have HS5 := hid hs5; have HR5 := hid (hr.out.trans hr5); clear hp5 hs5 hr5)
      have HB0 : Hid (Blks l 20 0 (A ++ M) ∧ (A ++ M).length = n) := hid (by
        have h := perm_seg HP5.out
        refine ⟨hab.out.2.2 _ (.last a M (by have := hab.out; omega) h.2 HS5.out), by have := hab.out; rw [List.length_append]; omega⟩)
      have HR6 : Hid (Rit it g off pre post w (A ++ M) w5) := hid (by have := HR5.out; rwa [List.append_nil] at this)
      clear HBX HR HP5 HS5 HR5
      go_loopw [6] (fun sv wr => ∃ (bs : Nat) (p : List Nat), sv = .int .i64 bs ∧ 20 ≤ bs ∧ bs ≤ 2 * n + 20 ∧ Hid (Blks l bs 0 p ∧ p.length = n) ∧ Hid (Rit it g off pre post w p wr)) (fun sv _ => 2 * n + 20 - (intOf sv).toNat)
      case atStart => exact ⟨20, A ++ M, rfl, by omega, by omega, HB0.out, HR6.out⟩
      case round =>
        clear hr hab HB0 HR6 ha hbn hlt
        obtain ⟨bs, p, rfl, h20, h2n, hbl, hr⟩ := hrel
        by_cases hlt : bs < n
        · obtain ⟨b2, hb2⟩ : ∃ b2, b2 = 2 * bs := ⟨_, rfl⟩
          have w2 : (2 : Int) * (bs : Int) = (b2 : Int) := by omega
          have w3 : (bs : Int) * 2 = (b2 : Int) := by omega
          have hb2n : b2 ≤ 2 * n := by omega
          have HB2 := hid hb2
          clear hb2
          go_wp2_with (fail)
          go_loopw [7, 8] (fun av bv wr => ∃ (a b : Nat) (A q : List Nat), av = .int .i64 a ∧ bv = .int .i64 b ∧ a ≤ n ∧ b ≤ n + b2 ∧ a ≤ b ∧ Hid (b = a + b2 ∧ a = A.length ∧ A.length + q.length = n ∧ Pre l b2 a A ∧ Blks l bs a q) ∧ Hid (Rit it g off pre post w (A ++ q) wr)) (fun _ bv _ => n + b2 - (intOf bv).toNat)
          case atStart => exact ⟨0, b2, [], p, rfl, rfl, by omega, by omega, by omega, ⟨by omega, rfl, by simpa using hbl.out.2, Pre.nil _ _, hbl.out.1⟩, by rw [List.nil_append]; exact hr.out⟩
          case round =>
            clear hr hbl
            obtain ⟨a, b, A, q, rfl, rfl, han, hbn2, hab', hab, hr⟩ := hrel
            obtain ⟨m, hm⟩ : ∃ m, m = a + bs := ⟨_, rfl⟩
            have w4 : (a : Int) + (bs : Int) = (m : Int) := by omega
            by_cases hltb : b ≤ n
            · have hcut : ∃ M1 M2 q', q = M1 ++ (M2 ++ q') ∧ (M1.length = bs ∧ M2.length = bs) ∧ (M1.Perm (List.range' a M1.length) ∧ M2.Perm (List.range' m M2.length)) ∧ (M1.Pairwise (ilt l) ∧ M2.Pairwise (ilt l)) ∧ Blks l bs (a + b2) q' := by
                obtain ⟨M1, q1, rfl, h1, h2, h3, h4⟩ := hab.out.2.2.2.2.cut (by have := hab.out; have := HB2.out; omega)
                obtain ⟨M2, q2, rfl, k1, k2, k3, k4⟩ := h4.cut (by have h9 := hab.out.2.2.1; have := hab.out.1; have := hab.out.2.1; have := HB2.out; rw [List.length_append] at h9; omega)
                exact ⟨M1, M2, q2, rfl, ⟨h1, k1⟩, ⟨h2, by rw [hm]; exact k2⟩, ⟨h3, k3⟩, by rw [show a + b2 = a + bs + bs by have := HB2.out; omega]; exact k4⟩
              obtain ⟨M1, M2, q', rfl, hML, hMP, hMS, hMq⟩ := hcut
              have hlow : ∀ x ∈ M1, ∀ y ∈ M2, x < y := fun x hx y hy => by
                have h1 := perm_lt hMP.1 hx
                have h2 := perm_lt hMP.2 hy
                omega
              have htop : ∀ y ∈ M2, y < l.length := fun y hy => by
                have h2 := perm_lt hMP.2 hy
                have := hab.out
                have := HL.out
                have := HB2.out
                omega
              have HLOW := hid hlow
              have HTOP := hid htop
              have HML := hid hML
              have HMP := hid hMP
              have HMS := hid hMS
              have HMQ := hid hMq
              have HM := hid hm
              have HLEN := hid (show A.length + bs + bs + q'.length = n by have h9 := hab.out.2.2.1; simp only [List.length_append] at h9; omega)
              have HBX : Hid (Rit0 it g off pre post (A ++ M1 ++ M2 ++ q') wr) := hid (by have h := hr.out.1; simpa using h)
              clear hlow htop hML hMP hMS hMq hm
              go_wp2_with (go_at_call 80; refine (symAllI it g off cap n pre post l HLC.out (by omega) n A M1 M2 q' a m b wr HBX.out (by have := HML.out; have := HLEN.out; omega) hab.out.2.1 (by have := HML.out; have := HM.out; omega) (by have := HML.out; have := HM.out; have := hab.out.1; have := HB2.out; omega) (by have := HML.out; omega) (by have := HML.out; omega) (by have := HML.out; have := HLEN.out; omega) HTOP.out HLOW.out HMS.out.1 HMS.out.2).mono ?_; rintro e5 w5 ⟨rfl, M, hp5, hs5, hr5⟩; have HP5 := hid hp5; have HS5 := hid hs5; have HR5 := hid (hr.out.trans hr5); clear hp5 hs5 hr5)
              have HMM : Hid (M.length = b2 ∧ M.Perm (List.range' a M.length)) := hid ⟨by have h9 := HP5.out.length_eq; rw [List.length_append] at h9; have := HML.out; have := HB2.out; omega, perm_two HP5.out HMP.out.1 (by rw [show a + M1.length = m by have := HML.out; have := HM.out; omega]; exact HMP.out.2)⟩
              go_roundw
              case rel => exact ⟨b, b + b2, A ++ M, q', rfl, by first | rfl | go_num, hltb, by omega, by omega, ⟨rfl, by rw [List.length_append]; have := hab.out.1; have := hab.out.2.1; have := HMM.out.1; omega, by rw [List.length_append]; have := HMM.out.1; have := HLEN.out; have := HB2.out; omega, by have h := hab.out.2.2.2.1.next HMM.out.1 HMM.out.2 HS5.out; rwa [← hab.out.1] at h, by rw [hab.out.1]; exact HMQ.out⟩, HR5.out⟩
              case measure => simp [intOf]; omega
            · by_cases hmn : m < n
              · have hcut : ∃ M1 M2, q = M1 ++ M2 ∧ (M1.length = bs ∧ M2.length = n - m) ∧ (M1.Perm (List.range' a M1.length) ∧ M2.Perm (List.range' m M2.length)) ∧ (M1.Pairwise (ilt l) ∧ M2.Pairwise (ilt l)) := by
                  obtain ⟨M1, q1, rfl, h1, h2, h3, h4⟩ := hab.out.2.2.2.2.cut (by have := hab.out; omega)
                  have hq1 : q1.length = n - m := by have h9 := hab.out.2.2.1; rw [List.length_append] at h9; have := hab.out.2.1; omega
                  have h5 := h4.one (by have := hab.out.1; have := HB2.out; omega)
                  exact ⟨M1, q1, rfl, ⟨h1, hq1⟩, ⟨h2, by rw [hm]; exact h5.1⟩, ⟨h3, h5.2⟩⟩
                obtain ⟨M1, M2, rfl, hML, hMP, hMS⟩ := hcut
                have hlow : ∀ x ∈ M1, ∀ y ∈ M2, x < y := fun x hx y hy => by
                  have h1 := perm_lt hMP.1 hx
                  have h2 := perm_lt hMP.2 hy
                  omega
                have htop : ∀ y ∈ M2, y < l.length := fun y hy => by
                  have h2 := perm_lt hMP.2 hy
                  have := HL.out
                  omega
                have HLOW := hid hlow
                have HTOP := hid htop
                have HML := hid hML
                have HMP := hid hMP
                have HMS := hid hMS
                have HM := hid hm
                have HLEN := hid (show A.length + bs + (n - m) = n by have h9 := hab.out.2.2.1; simp only [List.length_append] at h9; omega)
                have HBX : Hid (Rit0 it g off pre post (A ++ M1 ++ M2 ++ []) wr) := hid (by have h := hr.out.1; simpa using h)
                clear hlow htop hML hMP hMS hm
                go_wp2_with (go_at_call 80; refine (symAllI it g off cap n pre post l HLC.out (by omega) n A M1 M2 [] a m n wr HBX.out (by have := HML.out; have := HLEN.out; simp only [List.length_nil]; omega) hab.out.2.1 (by have := HML.out; have := HM.out; omega) (by have := HML.out; omega) (by have := HML.out; omega) (by have := HML.out; omega) (by have := HML.out; have := HLEN.out; omega) HTOP.out HLOW.out HMS.out.1 HMS.out.2).mono ?_; rintro e5 w5 ⟨rfl, M, hp5, hs5, hr5⟩; have HP5 := hid hp5; have HS5 := hid hs5; have HR5 := hid (hr.out.trans hr5); clear hp5 hs5 hr5)
                have HMM : Hid (M.length + a = n ∧ M.Perm (List.range' a M.length)) := hid ⟨by have h9 := HP5.out.length_eq; rw [List.length_append] at h9; have := HML.out; have := HM.out; omega, perm_two HP5.out HMP.out.1 (by rw [show a + M1.length = m by have := HML.out; have := HM.out; omega]; exact HMP.out.2)⟩
                go_roundw
                case rel => exact ⟨b2, A ++ M, rfl, by have := HB2.out; omega, by omega, ⟨hab.out.2.2.2.1 _ (.last a M (by have := HMM.out.1; have := hab.out.1; omega) HMM.out.2 HS5.out), by rw [List.length_append]; have := HMM.out.1; have := hab.out.2.1; omega⟩, by have := HR5.out; rwa [List.append_nil] at this⟩
                case measure => have := HB2.out; simp [intOf]; omega
              · have h5 := hab.out.2.2.2.2.one (by have := hab.out; omega)
                have HQ := hid h5
                have HM := hid hm
                clear h5 hm
                go_wp2
                go_roundw
                case rel => exact ⟨b2, A ++ q, rfl, by have := HB2.out; omega, by omega, ⟨hab.out.2.2.2.1 _ (.last a q (by have := hab.out; have := HM.out; have := HB2.out; omega) HQ.out.1 HQ.out.2), by rw [List.length_append]; exact hab.out.2.2.1⟩, hr.out⟩
                case measure => have := HB2.out; simp [intOf]; omega
        · have h5 := hbl.out.1.one (by have := hbl.out.2; omega)
          rw [hbl.out.2, ← List.range_eq_range'] at h5
          have HQ := hid h5
          clear h5
          go_wp2
          go_end0
          exact ⟨rfl, p, HQ.out, hr.out⟩
end Go.Proofs.Ytdncmdpacidgmaa

/-! Ord9a -/
namespace Go.Proofs.Ytdncmdpacidgmaa
open Go.RowKit

/-- numbers with their classes, as cells -/
def tcv : List Int → List Value
  | [] => []
  | c :: s => .int .i64 c :: .int .i64 (classS c) :: tcv s
theorem tcv_len : ∀ s : List Int, (tcv s).length = s.length * 2
  | [] => rfl
  | c :: s => by rw [tcv, List.length_cons, List.length_cons, tcv_len s, List.length_cons]; omega
theorem tcv_app : ∀ s t : List Int, tcv (s ++ t) = tcv s ++ tcv t
  | [], _ => rfl
  | c :: s, t => by rw [List.cons_append, tcv, tcv, tcv_app s t]; rfl
theorem tcv_at : ∀ {s : List Int} {i : Nat}, i < s.length → (tcv s)[i * 2]? = some (.int .i64 (s.getD i 0)) ∧ (tcv s)[i * 2 + 1]? = some (.int .i64 (classS (s.getD i 0)))
  | [], _, h => by simp at h
  | c :: s, 0, _ => by simp [tcv]
  | c :: s, i + 1, h => by
    have ih := tcv_at (s := s) (i := i) (by simpa using h)
    rw [tcv, show (i + 1) * 2 = i * 2 + 2 by omega]
    simpa using ih
def tag (s : List Int) : List (Int × Int) := s.map fun c => (c, classS c)
theorem icv_tag (s : List Int) : ∀ {M : List Nat}, (∀ k ∈ M, k < s.length) → icv (tag s) M = tcv (M.map fun k => s.getD k 0)
  | [], _ => rfl
  | k :: M, h => by
    have hk := h k (by simp)
    have e : (tag s).getD k noIt = (s.getD k 0, classS (s.getD k 0)) := by
      simp [tag, List.getD_eq_getElem?_getD, List.getElem?_eq_getElem hk]
    rw [icv, icv_tag s (fun j hj => h j (List.mem_cons_of_mem _ hj)), e]
    rfl
theorem icv_all (s : List Int) : icv (tag s) (List.range' 0 s.length) = tcv s := by
  rw [icv_tag s fun k hk => by rw [List.mem_range'_1] at hk; omega]
  congr 1
  refine List.ext_getElem (by simp) fun i h1 h2 => ?_
  simp [List.getD_eq_getElem?_getD]
  rw [List.getElem?_eq_getElem h2]
  rfl
/-- how many marks stand at the beginning -/
def cntM (s : List Int) : Nat := (s.takeWhile fun c => classS c != 0).length
theorem cntM_hit : ∀ {s : List Int} {k : Nat}, k < s.length → (∀ i, i < k → classS (s.getD i 0) ≠ 0) → classS (s.getD k 0) = 0 → cntM s = k
  | [], _, h, _, _ => by simp at h
  | c :: s, 0, _, _, h => by
    have h : classS c = 0 := by simpa using h
    simp [cntM, h]
  | c :: s, k + 1, hk, ha, h => by
    have h0 : classS c ≠ 0 := by simpa using ha 0 (by omega)
    have ih := cntM_hit (s := s) (k := k) (by simpa using hk) (fun i hi => by simpa using ha (i + 1) (by omega)) (by simpa using h)
    unfold cntM at ih ⊢
    rw [List.takeWhile_cons, if_pos (by simpa using h0), List.length_cons, ih]
theorem cntM_none : ∀ {s : List Int}, (∀ i, i < s.length → classS (s.getD i 0) ≠ 0) → cntM s = s.length
  | [], _ => rfl
  | c :: s, ha => by
    have h0 : classS c ≠ 0 := by simpa using ha 0 (by simp)
    have ih := cntM_none (s := s) (fun i hi => by simpa using ha (i + 1) (by simpa using hi))
    unfold cntM at ih ⊢
    rw [List.takeWhile_cons, if_pos (by simpa using h0), List.length_cons, ih, List.length_cons]

/-- numbers with their classes lie in block g from cell off on -/
def Tagd (s : List Int) (g off : Nat) (w : World) : Prop := g < w.heap.size ∧ ∀ i, i < s.length → w.cell? ⟨g, off + i * 2, none⟩ = some (.int .i64 (s.getD i 0)) ∧ w.cell? ⟨g, off + i * 2 + 1, none⟩ = some (.int .i64 (classS (s.getD i 0)))
theorem Tagd.of {A s B : List Int} {g : Nat} {w : World} (h : Box 99 (tcv (A ++ s ++ B)) g w) : Tagd s g (A.length * 2) w := by
  refine ⟨h.lt, fun i hi => ?_⟩
  have hl := tcv_len A
  have a := tcv_at hi
  rw [List.append_assoc, tcv_app, tcv_app] at h
  have hs := tcv_len s
  constructor
  · rw [h.cell, List.getElem?_append_right (by omega), List.getElem?_append_left (by omega), show A.length * 2 + i * 2 - (tcv A).length = i * 2 by omega]
    exact a.1
  · rw [h.cell, List.getElem?_append_right (by omega), List.getElem?_append_left (by omega), show A.length * 2 + i * 2 + 1 - (tcv A).length = i * 2 + 1 by omega]
    exact a.2

set_option maxHeartbeats 1000000 in
theorem markRule (n c : Int) (w : World) : Calls Try.prog 71 #[.agg #[.int .i64 n, .int .i64 c]] w fun e w' => e = .returned (.bool (c == 0)) ∧ Below w.heap.size w w' := by
  obtain ⟨i0, hi0, hz0, hz1, hz2⟩ := info_parts Try.infoItem
  obtain ⟨b, hb⟩ : ∃ b, b = (c == 0) := ⟨_, rfl⟩
  have hb2 : (c == 0) = b := hb.symm
  rw [← hb]
  clear hb
  go_enter Try.func71, Try.ntmps71
  go_wp2_with (fail)
  go_ret
  exact ⟨rfl, by (repeat (first | exact Below.refl _ _ | exact below_drewN _ | refine Below.drew ?_ | refine Below.alloc ?_ (by simp) _ | refine Below.setCell ?_ (by simp) _ | refine below_drewN' ?_ _))⟩

set_option maxHeartbeats 2000000 in
theorem indexMarks (s : List Int) (g off n cap : Nat) (w : World) (h : Tagd s g off w) (hn : n = s.length) (hm : n ≤ 1000000) :
    Calls Try.prog 70 #[.slice (some ⟨g, off, none⟩) n cap, .func (.func 71) #[] #[]] w fun e w' => e = .returned (.int .i64 (if cntM s = n then -1 else (cntM s : Int))) ∧ Below w.heap.size w w' := by
  obtain ⟨i0, hi0, hz0, hz1, hz2⟩ := info_parts Try.infoItem
  obtain ⟨R, hR⟩ : ∃ R : Int, R = if cntM s = n then -1 else (cntM s : Int) := ⟨_, rfl⟩
  have hH : ∀ k, k < n → (∀ i, i < k → classS (s.getD i 0) ≠ 0) → classS (s.getD k 0) = 0 → R = (k : Int) := fun k hk ha h0 => by
    rw [hR, cntM_hit (by omega) ha h0, if_neg (by omega)]
  have hN : (∀ i, i < n → classS (s.getD i 0) ≠ 0) → R = -1 := fun ha => by
    rw [hR, cntM_none (by rw [← hn]; exact ha), if_pos hn.symm]
  rw [← hR]
  have HH := hid hH
  have HN := hid hN
  have H1 := hid h
  have HNL := hid hn
  clear hH hN h hR hn
  go_enter Try.func70, Try.ntmps70
  go_wp2_with (fail)
  go_loopw [8] (fun iv wr => ∃ k : Nat, k ≤ n ∧ iv = .int .i64 k ∧ Hid (Below w.heap.size w wr) ∧ Hid (∀ i, i < k → classS (s.getD i 0) ≠ 0)) (fun iv _ => n - (intOf iv).toNat)
  case atStart => exact ⟨0, by omega, rfl, Below.refl _ _, fun i hi => absurd hi (by omega)⟩
  case round =>
    obtain ⟨k, hk, rfl, hbel, hall⟩ := hrel
    by_cases hlt : k < n
    · obtain ⟨d1, d2⟩ := H1.out.2 k (by have := HNL.out; omega)
      have d1 := (hbel.out.cell (p := ⟨g, off + k * 2, none⟩) H1.out.1).trans d1
      have d2 := (hbel.out.cell (p := ⟨g, off + k * 2 + 1, none⟩) H1.out.1).trans d2
      have hh := hid (HH.out k hlt hall.out)
      have HNX := hid (show classS (s.getD k 0) ≠ 0 → ∀ i, i < k + 1 → classS (s.getD i 0) ≠ 0 from fun he i hi => by
        rcases Nat.lt_or_ge i k with h | h
        · exact hall.out i h
        · obtain rfl : i = k := by omega
          exact he)
      generalize classS (s.getD k 0) = c at d2 hh HNX
      generalize s.getD k 0 = x at d1
      obtain ⟨b, hb⟩ : ∃ b, b = (c == 0) := ⟨_, rfl⟩
      have HC := hid (markRule x c wr)
      rw [← hb] at HC
      cases b with
      | true =>
        have hr := hid (hh.out (by simpa using hb.symm))
        clear hb
        go_wp2_with (go_at_call 71; refine HC.out.mono ?_; rintro e wu ⟨rfl, hbu⟩; have HBU := hid (hbel.out.trans (hbu.mono hbel.out.size)); clear hbu)
        go_ret
        exact ⟨by rw [hr.out]; rfl, HBU.out⟩
      | false =>
        have hr := hid (HNX.out (by simpa using hb.symm))
        clear hb
        go_wp2_with (go_at_call 71; refine HC.out.mono ?_; rintro e wu ⟨rfl, hbu⟩; have HBU := hid (hbel.out.trans (hbu.mono hbel.out.size)); clear hbu)
        go_roundw
        case rel => exact ⟨k + 1, by omega, by go_num, HBU.out, hr.out⟩
        case measure => simp [intOf]; omega
    · obtain rfl : k = n := by omega
      have hr := hid (HN.out hall.out)
      go_wp2_with (fail)
      go_ret
      exact ⟨by rw [hr.out]; rfl, hbel.out⟩

set_option maxHeartbeats 1000000 in
theorem countMarks (s : List Int) (g off n cap : Nat) (w : World) (h : Tagd s g off w) (hn : n = s.length) (hm : n ≤ 1000000) :
    Calls Try.prog 58 #[.slice (some ⟨g, off, none⟩) n cap] w fun e w' => e = .returned (.int .i64 (cntM s)) ∧ Below w.heap.size w w' := by
  obtain ⟨m, hmm⟩ : ∃ m, m = cntM s := ⟨_, rfl⟩
  have hle : m ≤ n := by rw [hmm, hn]; exact (List.takeWhile_sublist _).length_le
  have HX := hid (indexMarks s g off n cap w h hn hm)
  rw [← hmm] at HX ⊢
  clear hmm h hn
  go_enter Try.func58, Try.ntmps58
  by_cases he : m = n
  · subst he
    have HX2 : Hid (Calls Try.prog 70 #[.slice (some ⟨g, off, none⟩) m cap, .func (.func 71) #[] #[]] w fun e w' => e = .returned (.int .i64 (-1)) ∧ Below w.heap.size w w') := hid (by have := HX.out; rwa [if_pos rfl] at this)
    go_wp2_with (go_at_call 70; refine HX2.out.mono ?_; rintro e w1 ⟨rfl, hb1⟩; have HB1 := hid hb1; clear hb1)
    go_ret
    exact ⟨rfl, HB1.out⟩
  · have HX2 : Hid (Calls Try.prog 70 #[.slice (some ⟨g, off, none⟩) n cap, .func (.func 71) #[] #[]] w fun e w' => e = .returned (.int .i64 (m : Int)) ∧ Below w.heap.size w w') := hid (by have := HX.out; rwa [if_neg he] at this)
    have hm0 : ¬ ((m : Int) < 0) := by omega
    go_wp2_with (go_at_call 70; refine HX2.out.mono ?_; rintro e w1 ⟨rfl, hb1⟩; have HB1 := hid hb1; clear hb1)
    go_ret
    exact ⟨rfl, HB1.out⟩

theorem sortFunc (it : List (Int × Int)) (g off cap n : Nat) (pre post : List Value) (w : World) (hb : Rit0 it g off pre post (List.range' 0 n) w) (hn : n ≤ 1000000) (hl : n = it.length) :
    Calls Try.prog 59 #[.slice (some ⟨g, off, none⟩) n cap, .func (.func 60) #[] #[]] w fun e w' => e = .returned (.tuple #[]) ∧
      ∃ M, IsPl (lcl it) n M ∧ Rit it g off pre post w M w' := by
  have HB := hid hb
  have HL := hid (show n = (lcl it).length by rw [lcl_len]; exact hl)
  clear hb hl
  go_enter Try.func59, Try.ntmps59
  go_wp2_with (go_at_call 72; refine (stableItems it g off cap n pre post (lcl it) rfl w HB.out hn HL.out).mono ?_; rintro e w' ⟨rfl, M, hm, hr⟩; have HM := hid hm; have HR := hid hr; clear hm hr)
  go_end0
  exact ⟨rfl, M, HM.out, HR.out⟩
theorem sortRun (A R B : List Int) (g off n cap : Nat) (w : World) (hb : Box 99 (tcv (A ++ R ++ B)) g w) (hn : R.length = n) (hm : n ≤ 1000000) (ho : off = A.length * 2) (hz : ∀ c ∈ R, classS c ≠ 0) :
    Calls Try.prog 59 #[.slice (some ⟨g, off, none⟩) n cap, .func (.func 60) #[] #[]] w fun e w' => e = .returned (.tuple #[]) ∧
      Box 99 (tcv (A ++ putG classS R ++ B)) g w' ∧ w.grownBy w' (some g) := by
  subst hn ho
  refine (sortFunc (tag R) g (A.length * 2) cap R.length (tcv A) (tcv B) w ⟨by rw [icv_all, ← tcv_app, ← tcv_app]; exact hb, (tcv_len A).symm⟩ hm (by simp [tag])).mono ?_
  rintro e w' ⟨rfl, M, hM, hr⟩
  refine ⟨rfl, ?_, hr.2⟩
  have h1 := hr.1.1
  rw [icv_tag R fun k hk => hM.lt hk, place_marks (cl := classS) rfl hM class_pos hz, ← tcv_app, ← tcv_app] at h1
  exact h1
end Go.Proofs.Ytdncmdpacidgmaa

/-! Ord9b -/
namespace Go.Proofs.Ytdncmdpacidgmaa
open Go.RowKit

theorem make_items (n : Nat) (hn : n ≤ 1000000) (w : World) : (Instr.makeSlice 94 (.int .i64 (n : Int)) (.int .i64 (n : Int))).run Try.prog w = .ok (.slice (some ⟨w.heap.size, 0, none⟩) n n) (w.alloc (.cells (List.replicate (n * 2) (Value.int .i64 0)).toArray 99)) := by
  obtain ⟨i, hi, hz0, hz1, hz2⟩ := info_parts Try.infoItem
  have := run_make (P := Try.prog) w 94 99 i (.agg #[.int .i64 0, .int .i64 0]) (by kernel_rfl) hi hz0 .i64 .i64 (n : Int) (n : Int) (by omega) (by omega) (by rw [hz2]; omega) (by omega)
  rw [this, hz1]
  have e : madeCells (Value.agg #[.int .i64 0, .int .i64 0]).cells ((n : Int).toNat * 2) = (List.replicate (n * 2) (Value.int .i64 0)).toArray := by
    apply Array.ext
    · simp [madeCells]
    · intro j h1 h2
      rcases Nat.mod_two_eq_zero_or_one j with h | h <;> simp [madeCells, Value.cells, h]
  rw [e]
  rfl
theorem make_nums (n : Nat) (hn : n ≤ 1000000) (w : World) : (Instr.makeSlice 22 (.int .i64 (n : Int)) (.int .i64 (n : Int))).run Try.prog w = .ok (.slice (some ⟨w.heap.size, 0, none⟩) n n) (w.alloc (.cells (List.replicate n (Value.int .i64 0)).toArray 3)) := by
  obtain ⟨i, hi, hz0, hz1, hz2⟩ := info_parts Try.infoI64
  have := run_make (P := Try.prog) w 22 3 i (.int .i64 0) Try.underlying22 hi hz0 .i64 .i64 (n : Int) (n : Int) (by omega) (by omega) (by rw [hz2]; omega) (by omega)
  rw [this, hz1]
  have e : madeCells (Value.int .i64 0).cells ((n : Int).toNat * 1) = (List.replicate n (Value.int .i64 0)).toArray := by
    apply Array.ext
    · simp [madeCells]
    · intro j h1 h2
      simp [madeCells, Value.cells, Nat.mod_one]
  rw [e]
  rfl
theorem take_one {s : List Int} {k : Nat} (h : k < s.length) : s.take (k + 1) = s.take k ++ [s.getD k 0] := by
  rw [List.take_succ_eq_append_getElem h, List.getD_eq_getElem?_getD, List.getElem?_eq_getElem h]
  rfl
/-- the first k filled in -/
def fillT (s : List Int) (k : Nat) : List Value := tcv (s.take k) ++ List.replicate ((s.length - k) * 2) (Value.int .i64 0)
theorem fillT_zero (s : List Int) : fillT s 0 = List.replicate (s.length * 2) (Value.int .i64 0) := by simp [fillT, tcv]
theorem fillT_all (s : List Int) : fillT s s.length = tcv s := by simp [fillT]
theorem fillT_next {s : List Int} {k : Nat} (h : k < s.length) : ((fillT s k).set (k * 2) (.int .i64 (s.getD k 0))).set (k * 2 + 1) (.int .i64 (classS (s.getD k 0))) = fillT s (k + 1) := by
  have hl := tcv_len (s.take k)
  rw [List.length_take] at hl
  unfold fillT
  rw [show (s.length - k) * 2 = (s.length - (k + 1)) * 2 + 1 + 1 by omega, List.replicate_succ, List.replicate_succ, take_one h, tcv_app,
    List.set_append_right _ _ (by omega), show k * 2 - (tcv (s.take k)).length = 0 by omega, List.set_append_right _ _ (by omega), show k * 2 + 1 - (tcv (s.take k)).length = 1 by omega]
  simp [tcv]
def fillN (s : List Int) (k : Nat) : List Value := (s.take k).map (Value.int .i64) ++ List.replicate (s.length - k) (Value.int .i64 0)
theorem fillN_zero (s : List Int) : fillN s 0 = List.replicate s.length (Value.int .i64 0) := by simp [fillN]
theorem fillN_all (s : List Int) : fillN s s.length = s.map (Value.int .i64) := by simp [fillN]
theorem fillN_next {s : List Int} {k : Nat} (h : k < s.length) : (fillN s k).set k (.int .i64 (s.getD k 0)) = fillN s (k + 1) := by
  unfold fillN
  rw [show s.length - k = (s.length - (k + 1)) + 1 by omega, List.replicate_succ, take_one h, List.map_append, List.set_append_right _ _ (by rw [List.length_map, List.length_take]; omega), List.length_map, List.length_take, show k - min k s.length = 0 by omega]
  simp
theorem own_nums {g base n : Nat} {w : World} {s : List Int} (hb : Box 3 (s.map (Value.int .i64)) g w) (hl : s.length = n) (hg : base ≤ g) (hk : n ≤ 1000000) : Own .i64 3 base w (.slice (some ⟨g, 0, none⟩) n n) s := by
  subst hl
  refine ⟨by simp, .inr ⟨g, s.length, (s.map (Value.int .i64)).toArray, rfl, hg, hb, Nat.le_refl _, by unfold maxLen; omega, by simp, ?_⟩⟩
  rw [Nat.mul_one, List.take_of_length_le (by simp)]
theorem fillT_at {s : List Int} {k : Nat} (h : k < s.length) : (fillT s k)[k * 2]? = some (.int .i64 0) ∧ (fillT s k)[k * 2 + 1]? = some (.int .i64 0) := by
  have hl := tcv_len (s.take k)
  rw [List.length_take] at hl
  unfold fillT
  constructor
  · rw [List.getElem?_append_right (by omega), List.getElem?_replicate, if_pos (by omega)]
  · rw [List.getElem?_append_right (by omega), List.getElem?_replicate, if_pos (by omega)]
theorem fillN_at {s : List Int} {k : Nat} (h : k < s.length) : (fillN s k)[k]? = some (.int .i64 0) := by
  unfold fillN
  rw [List.getElem?_append_right (by rw [List.length_map, List.length_take]; omega), List.getElem?_replicate, if_pos (by rw [List.length_map, List.length_take]; omega)]

set_option maxHeartbeats 2000000 in
theorem classify9 (v : Value) (s : List Int) (w : World) (h : Sl .i64 w v s) (hm : s.length ≤ 1000000) :
    Calls Try.prog 57 #[v] w fun e w' => e = .returned (.slice (some ⟨w.heap.size, 0, none⟩) s.length s.length) ∧ Box 99 (tcv s) w.heap.size w' ∧ Below w.heap.size w w' := by
  obtain ⟨i0, hi0, hz0, hz1, hz2⟩ := info_parts Try.infoItem
  obtain ⟨a, cap, rfl, q1, m1, h1⟩ := h
  obtain ⟨n, hn⟩ : ∃ n, n = s.length := ⟨_, rfl⟩
  have hmk := make_items n (by omega) w
  have HNL := hid hn
  have H1 := hid h1
  rw [← hn] at q1 hm ⊢
  have HB0 : Hid (Box 99 (fillT s 0) w.heap.size (w.alloc (.cells (List.replicate (n * 2) (Value.int .i64 0)).toArray 99))) := hid (by rw [fillT_zero, ← hn]; exact Box.made _ _ _)
  have HL0 : Hid (Below w.heap.size w (w.alloc (.cells (List.replicate (n * 2) (Value.int .i64 0)).toArray 99))) := hid (by (repeat (first | exact Below.refl _ _ | exact below_drewN _ | refine Below.drew ?_ | refine Below.alloc ?_ (by simp) _ | refine Below.setCell ?_ (by simp) _ | refine below_drewN' ?_ _)))
  clear h1 hn m1
  generalize w.alloc (.cells (List.replicate (n * 2) (Value.int .i64 0)).toArray 99) = wb at hmk HB0 HL0
  go_enter Try.func57, Try.ntmps57
  go_wp2_with (fail)
  go_loopw [11] (fun iv wr => ∃ k : Nat, k ≤ n ∧ iv = .int .i64 k ∧ Hid (Box 99 (fillT s k) w.heap.size wr) ∧ Hid (Below w.heap.size w wr)) (fun iv _ => n - (intOf iv).toNat)
  case atStart => exact ⟨0, by omega, rfl, HB0.out, HL0.out⟩
  case round =>
    obtain ⟨k, hk, rfl, hbx, hbel⟩ := hrel
    by_cases hlt : k < n
    · rcases H1.out with hc | ⟨b1, o1, rfl, hb1, c1⟩
      · omega
      have hb1' := hb1 (by have := HNL.out; omega)
      have d1 := (hbel.out.cell (p := ⟨b1, o1 + k, none⟩) hb1').trans (c1 k (by have := HNL.out; omega))
      have hst := fillT_next (s := s) (k := k) (by have := HNL.out; omega)
      have HAT := hid (fillT_at (s := s) (k := k) (by have := HNL.out; omega))
      generalize s.getD k 0 = x at d1 hst
      have HST := hid hst
      clear hst c1 hb1
      go_wp2_with (go_at_call 54; refine (ucdClass x wr).mono ?_; rintro e w2 ⟨rfl, hb2⟩; have HBX2 := hid (hbx.out.below hb2 hbx.out.lt); have HBL2 := hid (hbel.out.trans (hb2.mono hbel.out.size)); have f1 := HBX2.out.ice (k * 2); have f2 := HBX2.out.ice (k * 2 + 1); have e1 := (HBX2.out.cell (k * 2)).trans HAT.out.1; have e2 := (HBX2.out.cell (k * 2 + 1)).trans HAT.out.2; clear hb2)
      go_roundw
      case rel => exact ⟨k + 1, by omega, by go_num, by rw [← HST.out]; exact (HBX2.out.set _ _).set _ _, by exact (HBL2.out.setCell (Nat.le_refl _) _).setCell (Nat.le_refl _) _⟩
      case measure => simp [intOf]; omega
    · obtain rfl : k = n := by omega
      go_wp2_with (fail)
      go_ret
      refine ⟨rfl, ?_, hbel.out⟩
      have := hbx.out
      rwa [HNL.out, fillT_all] at this

set_option maxHeartbeats 2000000 in
theorem numbers9 (s : List Int) (g n cap : Nat) (w : World) (h : Tagd s g 0 w) (hn : n = s.length) (hm : n ≤ 1000000) :
    Calls Try.prog 61 #[.slice (some ⟨g, 0, none⟩) n cap] w fun e w' => ∃ v, e = .returned v ∧ Own .i64 3 w.heap.size w' v s ∧ Below w.heap.size w w' := by
  obtain ⟨i0, hi0, hz0, hz1, hz2⟩ := info_parts Try.infoItem
  have hmk := make_nums n (by omega) w
  have HNL := hid hn
  have H1 := hid h
  have HB0 : Hid (Box 3 (fillN s 0) w.heap.size (w.alloc (.cells (List.replicate n (Value.int .i64 0)).toArray 3))) := hid (by rw [fillN_zero, ← hn]; exact Box.made _ _ _)
  have HL0 : Hid (Below w.heap.size w (w.alloc (.cells (List.replicate n (Value.int .i64 0)).toArray 3))) := hid (by (repeat (first | exact Below.refl _ _ | exact below_drewN _ | refine Below.drew ?_ | refine Below.alloc ?_ (by simp) _ | refine Below.setCell ?_ (by simp) _ | refine below_drewN' ?_ _)))
  clear h hn
  generalize w.alloc (.cells (List.replicate n (Value.int .i64 0)).toArray 3) = wb at hmk HB0 HL0
  go_enter Try.func61, Try.ntmps61
  go_wp2_with (fail)
  go_loopw [11] (fun iv wr => ∃ k : Nat, k ≤ n ∧ iv = .int .i64 k ∧ Hid (Box 3 (fillN s k) w.heap.size wr) ∧ Hid (Below w.heap.size w wr)) (fun iv _ => n - (intOf iv).toNat)
  case atStart => exact ⟨0, by omega, rfl, HB0.out, HL0.out⟩
  case round =>
    obtain ⟨k, hk, rfl, hbx, hbel⟩ := hrel
    by_cases hlt : k < n
    · obtain ⟨d1, d2⟩ := H1.out.2 k (by have := HNL.out; omega)
      rw [Nat.zero_add] at d1 d2
      have d1 := (hbel.out.cell (p := ⟨g, k * 2, none⟩) H1.out.1).trans d1
      have d2 := (hbel.out.cell (p := ⟨g, k * 2 + 1, none⟩) H1.out.1).trans d2
      have hst := fillN_next (s := s) (k := k) (by have := HNL.out; omega)
      have e1 := (hbx.out.cell k).trans (fillN_at (s := s) (k := k) (by have := HNL.out; omega))
      generalize classS (s.getD k 0) = c at d2
      generalize s.getD k 0 = x at d1 hst
      have HST := hid hst
      have hlt2 := hbx.out.lt
      have f1 := hbx.out.ice k
      clear hst
      go_wp2_with (fail)
      go_roundw
      case rel => exact ⟨k + 1, by omega, by go_num, by rw [← HST.out]; exact (hbx.out.set _ _).alloc _, by exact (hbel.out.setCell (Nat.le_refl _) _).alloc (hbel.out.setCell (Nat.le_refl _) _).size _⟩
      case measure => simp [intOf]; omega
    · obtain rfl : k = n := by omega
      go_wp2_with (fail)
      go_ret
      refine ⟨_, rfl, own_nums (by have := hbx.out; rwa [HNL.out, fillN_all] at this) HNL.out.symm (Nat.le_refl _) hm, hbel.out⟩
end Go.Proofs.Ytdncmdpacidgmaa
