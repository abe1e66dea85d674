/- Several texts in one: Stab7, ItS7, Stab8, ItS8. -/
import Derived.Test.YtimbchkoomjhkaaPk29
import Derived.Test.YtimbchkoomjhkaaPk30
/-! Stab7 -/
namespace Go.Proofs.Ytimbchkoomjhkaa
open Go.RowKit

theorem shL_x {A S T : List Nat} {x c j : Nat} (h : c ≤ S.length) (hj : j = A.length + c) : (shL A S T x c).getD j 0 = x := by
  unfold shL
  rw [hj, show A.length + c = (A ++ S.take c).length by rw [List.length_append, List.length_take]; omega, getD_mid]
theorem shL_y {A S T : List Nat} {x c j : Nat} (h : c < S.length) (hj : j = A.length + c) : (shL A S T x (c + 1)).getD j 0 = S.getD c 0 := by
  have e2 : S.take (c + 1) = S.take c ++ [S.getD c 0] := by
    rw [List.take_add_one, List.getD_eq_getElem?_getD, List.getElem?_eq_getElem h]; rfl
  unfold shL
  rw [e2, hj, show A ++ (S.take c ++ [S.getD c 0]) ++ x :: (S.drop (c + 1) ++ T) = (A ++ S.take c) ++ S.getD c 0 :: (x :: (S.drop (c + 1) ++ T)) by simp,
    show A.length + c = (A ++ S.take c).length by rw [List.length_append, List.length_take]; omega, getD_mid]

end Go.Proofs.Ytimbchkoomjhkaa

/-! ItS7 -/
namespace Go.Proofs.Ytimbchkoomjhkaa
open Go.RowKit

theorem symAllI (it : List (Int × Int)) (g off cap n : Nat) (pre post : List Value) (l : List (List Int)) (hlc : l = lcl it) (hn : n ≤ 1000000) : ∀ N, SymAtI it g off cap n N pre post l
  | 0 => fun A L R C a m b w hb hp ha hm hbb hL hR hN => by omega
  | N + 1 => fun A L R C a m b w hb hp ha hm hbb hL hR hN h1 h2 h3 h4 => by
    rcases Nat.lt_or_ge 1 L.length with hl | hl
    · rcases Nat.lt_or_ge 1 R.length with hr | hr
      · exact symGenI it g off cap n N pre post l hlc hn (symAllI it g off cap n pre post l hlc hn N) A L R C a m b w hb hp ha hm hbb hl hr hN h1 h2 h3 h4
      · obtain ⟨y, rfl⟩ := List.length_eq_one_iff.1 (show R.length = 1 by omega)
        exact symRightI it g off cap n pre post l hlc A L C y a m b w hb (by simpa using hp) hn ha hm (by simpa using hbb) hl (h1 y (by simp)) (fun x hx => h2 x hx y (by simp)) h3
    · obtain ⟨x, rfl⟩ := List.length_eq_one_iff.1 (show L.length = 1 by omega)
      have hy : R.getD 0 0 ∈ R := getD_mem hR
      exact symLeftI it g off cap n pre post l hlc A R C x a m b w hb (by simpa using hp) hn ha (by simpa using hm) hbb (Nat.lt_trans (h2 x (by simp) _ hy) (h1 _ hy)) (fun y hy => ⟨h2 x (by simp) y hy, h1 y hy⟩) h4

set_option maxHeartbeats 4000000 in
set_option maxRecDepth 100000 in
theorem insNoneI (g off cap n a : Nat) (cb : Value) (w : World) (hn : a ≤ 1000000) :
    Calls Try.prog 90 #[.slice (some ⟨g, off, none⟩) n cap, .int .i64 a, .int .i64 a, cb] w fun e w' => e = .returned (.tuple #[]) ∧ w = w' := by
  go_enter Try.func90, Try.ntmps90
  go_wp2
  go_loopw [8] (fun iv wr => iv = .int .i64 (a + 1 : Nat) ∧ w = wr) (fun iv _ => 0)
  case atStart => exact ⟨by go_num, rfl⟩
  case round =>
    obtain ⟨rfl, rfl⟩ := hrel
    go_wp2
    go_end0
    exact ⟨rfl, rfl⟩

set_option maxHeartbeats 4000000 in
set_option maxRecDepth 100000 in
theorem insSomeI (it : List (Int × Int)) (g off cap n : Nat) (pre post : List Value) (l : List (List Int)) (hlc : l = lcl it) (A C : List Nat) (a b : Nat) (w : World) (hb : Rit0 it g off pre post (A ++ List.range' a (b - a) ++ C) w) (hp : A.length + (b - a) + C.length = n) (hn : n ≤ 1000000)
    (ha : a = A.length) (hab : a < b) (hl : b ≤ l.length) :
    Calls Try.prog 90 #[.slice (some ⟨g, off, none⟩) n cap, .int .i64 a, .int .i64 b, .func (.func 58) #[] #[]] w fun e w' => e = .returned (.tuple #[]) ∧
      ∃ M, M.Perm (List.range' a (b - a)) ∧ M.Pairwise (ilt l) ∧ Rit it g off pre post w (A ++ M ++ C) w' := by
  have HR := hid (Rit.refl hb)
  have HLC := hid hlc
  have hbn : b ≤ n := by omega
  have HA := hid (show a = A.length ∧ A.length + (b - a) + C.length = n ∧ b ≤ l.length from ⟨ha, hp, hl⟩)
  obtain ⟨i0, hi0, hz0, hz1, hz2⟩ := info_parts Try.infoItem
  clear hb hlc ha hp hl
  go_enter Try.func90, Try.ntmps90
  go_wp2
  go_loopw [8] (fun iv wr => ∃ (i : Nat) (S : List Nat), iv = .int .i64 i ∧ a < i ∧ i ≤ b ∧ Hid (S.Perm (List.range' a (i - a)) ∧ S.Pairwise (ilt l)) ∧ Hid (Rit it g off pre post w (A ++ S ++ (List.range' i (b - i) ++ C)) wr)) (fun iv _ => b - (intOf iv).toNat)
  case atStart =>
    refine ⟨a + 1, [a], by go_num, by omega, by omega, ⟨by rw [Nat.add_sub_cancel_left]; exact List.Perm.refl _, List.pairwise_singleton _ _⟩, ?_⟩
    have h := HR.out
    rw [show b - a = (b - (a + 1)) + 1 by omega, List.range'_succ] at h
    have h2 : Rit it g off pre post w (A ++ [a] ++ (List.range' (a + 1) (b - (a + 1)) ++ C)) w := by simpa using h
    exact h2
  case round =>
    obtain ⟨i, S, rfl, hai, hib, hS, hr⟩ := hrel
    by_cases hlt : i < b
    · have hSl : S.length = i - a := by have := hS.out.1.length_eq; simpa using this
      have hSm : ∀ y ∈ S, y < i := fun y hy => by
        have := hS.out.1.mem_iff.1 hy
        rw [List.mem_range'_1] at this
        omega
      obtain ⟨T, hT⟩ : ∃ T, T = List.range' (i + 1) (b - (i + 1)) ++ C := ⟨_, rfl⟩
      have HR1 : Hid (Rit it g off pre post w (shL A S T i S.length) wr) := hid (by
        rw [shL_full, hT]
        have h := hr.out
        rw [show b - i = (b - (i + 1)) + 1 by omega, List.range'_succ] at h
        simpa using h)
      have HT := hid (show T = List.range' (i + 1) (b - (i + 1)) ++ C ∧ A.length + S.length + 1 + T.length = n from ⟨hT, by rw [hT]; have := HA.out; simp; omega⟩)
      have HSM := hid hSm
      have HSL := hid hSl
      clear hT hSm hSl hr
      go_wp2
      go_loopw [9] (fun jv wi => ∃ (j c : Nat), jv = .int .i64 j ∧ a ≤ j ∧ j ≤ i ∧ Hid (j = a + c ∧ c ≤ S.length) ∧ Hid (c = S.length ∨ ilt l i (S.getD c 0)) ∧ Hid (Rit it g off pre post w (shL A S T i c) wi)) (fun jv _ => (intOf jv).toNat)
      case atStart => exact ⟨i, S.length, rfl, by omega, by omega, ⟨by have := HSL.out; omega, Nat.le_refl _⟩, .inl rfl, HR1.out⟩
      case round =>
        obtain ⟨j, c, rfl, haj, hji, hjc, hord, hr⟩ := hrel
        have HEND : Hid (c = 0 ∨ ilt l (S.getD (c - 1) 0) i → ∀ wz, Rit it g off pre post w (shL A S T i c) wz → ∃ (S' : List Nat), (S'.Perm (List.range' a (i + 1 - a)) ∧ S'.Pairwise (ilt l)) ∧ Rit it g off pre post w (A ++ S' ++ (List.range' (i + 1) (b - (i + 1)) ++ C)) wz) := hid fun h wz hz => by
          refine ⟨S.take c ++ i :: S.drop c, ⟨?_, pw_put hS.out.2 hjc.out.2 h hord.out⟩, ?_⟩
          · refine (put_perm S i c).trans ?_
            rw [show i + 1 - a = (i - a) + 1 by omega, List.range'_concat]
            refine (List.Perm.cons i hS.out.1).trans ?_
            rw [show a + 1 * (i - a) = i by omega]
            exact List.perm_append_comm (l₁ := [i]) (l₂ := List.range' a (i - a))
          · rw [← HT.out.1, ← shL_end]; exact hz
        by_cases hja : a < j
        · have hjg : decide ((j : Int) > (a : Int)) = true := decide_eq_true (by omega)
          obtain ⟨c, rfl⟩ : ∃ c', c = c' + 1 := ⟨c - 1, by have := hjc.out; omega⟩
          obtain ⟨j1, hj1⟩ : ∃ j1, j1 = j - 1 := ⟨_, rfl⟩
          have hcS : c < S.length := by have := hjc.out; omega
          have hst := shL_back (A := A) (L := S) (C := T) (y := i) (c := c) hcS
          have e1 : (shL A S T i (c + 1)).getD j 0 = i := shL_x (by omega) (by have := hjc.out; have := HA.out; omega)
          have e2 : (shL A S T i (c + 1)).getD j1 0 = S.getD c 0 := shL_y hcS (by have := hjc.out; have := HA.out; omega)
          rw [← HA.out.1, show a + c + 1 = j by have := hjc.out; omega, show a + c = j1 by have := hjc.out; omega] at hst
          have HST := hid hst
          have hpl : (shL A S T i (c + 1)).length = n := by rw [shL_len]; have := HT.out; omega
          obtain ⟨c1, c1'⟩ := hr.out.at (i := j) (by omega)
          obtain ⟨c2, c2'⟩ := hr.out.at (i := j1) (by omega)
          rw [e1] at c1 c1'
          rw [e2] at c2 c2'
          obtain ⟨y, hy⟩ : ∃ y, y = S.getD c 0 := ⟨_, rfl⟩
          rw [← hy] at c2 c2'
          have hyi : y < i := HSM.out y (by rw [hy]; exact getD_mem hcS)
          have HY := hid hy
          have HYI := hid hyi
          have HJL := hid (show j < (shL A S T i (c + 1)).length ∧ j1 < (shL A S T i (c + 1)).length ∧ (shL A S T i (c + 1)).getD j 0 = i ∧ (shL A S T i (c + 1)).getD j1 0 = y from ⟨by omega, by omega, e1, by rw [hy]; exact e2⟩)
          obtain ⟨xn, hxn⟩ : ∃ n, n = (it.getD i noIt).1 := ⟨_, rfl⟩
          obtain ⟨xc, hxc⟩ : ∃ n, n = (it.getD i noIt).2 := ⟨_, rfl⟩
          obtain ⟨yn, hyn⟩ : ∃ n, n = (it.getD y noIt).1 := ⟨_, rfl⟩
          obtain ⟨yc, hyc⟩ : ∃ n, n = (it.getD y noIt).2 := ⟨_, rfl⟩
          rw [← hyn] at c2
          rw [← hyc] at c2'
          rw [← hxn] at c1
          rw [← hxc] at c1'
          have hil : i < l.length := by have := HA.out; omega
          have HLT := hid (cmpI_lt HLC.out hyi hil hxc hyc)
          have HGE := hid (cmpI_ge HLC.out hyi hil hxc hyc)
          have HVV := hid (show xn = (it.getD i noIt).1 ∧ xc = (it.getD i noIt).2 ∧ yn = (it.getD y noIt).1 ∧ yc = (it.getD y noIt).2 from ⟨hxn, hxc, hyn, hyc⟩)
          have s1 := fun u : Later wr => u.cell c1
          have s1' := fun u : Later wr => u.cell c1'
          have s2 := fun u : Later wr => u.cell c2
          have s2' := fun u : Later wr => u.cell c2'
          have HCM := hid (fun u : Later wr => later_call (byClass xn xc yn yc u.w))
          clear hxn hxc hyn hyc c1 c1' c2 c2'
          have w6 : (j : Int) - 1 = (j1 : Int) := by omega
          have n1 : j ≠ j1 := by omega
          have n2 : j1 ≠ j := by omega
          have b1 : j < n := by omega
          have b2 : j1 < n := by omega
          have HJ1 := hid (show j = j1 + 1 by omega)
          have HCS := hid hcS
          clear hst hpl e1 e2 hy hyi hcS hj1 hil
          go_wp2_with (fail)
          refine region_later (by kernel_rfl) (by kernel_rfl) ?_
          repeat (go_big_quiet_step (first | (go_at_call 58; with_reducible exact HCM.out _)))
          refine wpQuiet_nil ?_
          intro _ hw'
          obtain ⟨u, hw''⟩ := hw'
          subst hw''
          have HRU := hid (hr.out.below u.below)
          clear s1 s1' s2 s2'
          generalize u.w = wk at HRU ⊢
          obtain ⟨z, hz⟩ : ∃ z, z = cmpI xc yc := ⟨_, rfl⟩
          rw [← hz] at HLT HGE ⊢
          clear hz
          by_cases he : z < 0
          · have HN : Hid (ilt l i (S.getD c 0)) := hid (by rw [← HY.out]; exact HLT.out.1 (by omega))
            obtain ⟨c1, c1'⟩ := HRU.out.at (i := j) HJL.out.1
            obtain ⟨c2, c2'⟩ := HRU.out.at (i := j1) HJL.out.2.1
            rw [HJL.out.2.2.1, ← HVV.out.1] at c1
            rw [HJL.out.2.2.1, ← HVV.out.2.1] at c1'
            rw [HJL.out.2.2.2, ← HVV.out.2.2.1] at c2
            rw [HJL.out.2.2.2, ← HVV.out.2.2.2] at c2'
            have f1 := HRU.out.ice (off + j * 2)
            have f1' := HRU.out.ice (off + j * 2 + 1)
            have f2 := HRU.out.ice (off + j1 * 2)
            have f2' := HRU.out.ice (off + j1 * 2 + 1)
            clear HEND hr
            go_wp2_with (fail)
            go_big_region
            all_goals go_wp2
            go_roundw
            case rel => exact ⟨j1, c, by first | rfl | go_num, by omega, by omega, ⟨by have := hjc.out; have := HJ1.out; omega, by have := HCS.out; omega⟩, .inr HN.out, by rw [← HST.out]; exact (HRU.out.swap j j1 HJL.out.1 HJL.out.2.1 (by rw [HJL.out.2.2.1]; exact HVV.out.1) (by rw [HJL.out.2.2.1]; exact HVV.out.2.1) (by rw [HJL.out.2.2.2]; exact HVV.out.2.2.1) (by rw [HJL.out.2.2.2]; exact HVV.out.2.2.2)).drewN 1⟩
            case measure => have := HJ1.out; simp [intOf]; omega
          · have HN : Hid (c + 1 = 0 ∨ ilt l (S.getD (c + 1 - 1) 0) i) := hid (.inr (by rw [Nat.add_sub_cancel, ← HY.out]; exact HGE.out.1 (by omega)))
            obtain ⟨S', hS', hR'⟩ := HEND.out HN.out _ HRU.out
            have HS2 := hid hS'
            have HR2 := hid hR'
            clear hS' hR' HEND
            go_wp2
            go_roundw
            case rel => exact ⟨i + 1, S', by go_num, by omega, by omega, HS2.out, HR2.out⟩
            case measure => simp [intOf]; omega
        · have hjg : decide ((j : Int) > (a : Int)) = false := decide_eq_false (by omega)
          obtain rfl : j = a := by omega
          obtain ⟨S', hS', hR'⟩ := HEND.out (.inl (by have := hjc.out; omega)) _ (hr.out.drewN 1)
          have HS2 := hid hS'
          have HR2 := hid hR'
          clear hS' hR' HEND
          go_wp2_with (fail)
          go_big_region
          all_goals go_wp2
          go_roundw
          case rel => exact ⟨i + 1, S', by go_num, by omega, by omega, HS2.out, HR2.out⟩
          case measure => simp [intOf]; omega
    · obtain rfl : i = b := by omega
      go_wp2
      go_end0
      refine ⟨rfl, S, hS.out.1, hS.out.2, ?_⟩
      have h := hr.out
      simpa using h
end Go.Proofs.Ytimbchkoomjhkaa

/-! Stab8 -/
namespace Go.Proofs.Ytimbchkoomjhkaa
open Go.RowKit

/-- runs of bs numbers each, but for the last, each in order -/
inductive Blks (l : List (List Int)) (bs : Nat) : Nat → List Nat → Prop
  | last (s : Nat) (M : List Nat) (h : M.length ≤ bs) (hp : M.Perm (List.range' s M.length)) (hs : M.Pairwise (ilt l)) : Blks l bs s M
  | more (s : Nat) (M q : List Nat) (h : M.length = bs) (hp : M.Perm (List.range' s M.length)) (hs : M.Pairwise (ilt l)) (hq : Blks l bs (s + bs) q) : Blks l bs s (M ++ q)
def Pre (l : List (List Int)) (bs a : Nat) (A : List Nat) : Prop := ∀ q, Blks l bs a q → Blks l bs 0 (A ++ q)
theorem Pre.nil (l : List (List Int)) (bs : Nat) : Pre l bs 0 [] := fun _ h => h
theorem Pre.next {l : List (List Int)} {bs a : Nat} {A M : List Nat} (h : Pre l bs a A) (hl : M.length = bs) (hp : M.Perm (List.range' a M.length)) (hs : M.Pairwise (ilt l)) : Pre l bs (a + bs) (A ++ M) := fun q hq => by
  rw [List.append_assoc]
  exact h _ (.more a M q hl hp hs hq)
theorem Blks.nil (l : List (List Int)) (bs a : Nat) : Blks l bs a [] := .last a [] (by simp) (List.Perm.refl _) List.Pairwise.nil
/-- the first run, and what stands behind it -/
theorem Blks.cut {l : List (List Int)} {bs s : Nat} {q : List Nat} (h : Blks l bs s q) (hb : bs ≤ q.length) : ∃ M q', q = M ++ q' ∧ M.length = bs ∧ M.Perm (List.range' s M.length) ∧ M.Pairwise (ilt l) ∧ Blks l bs (s + bs) q' := by
  cases h with
  | last _ _ h hp hs => exact ⟨q, [], by simp, by omega, hp, hs, Blks.nil _ _ _⟩
  | more _ M q h hp hs hq => exact ⟨M, q, rfl, h, hp, hs, hq⟩
/-- no more than one run -/
theorem Blks.one {l : List (List Int)} {bs s : Nat} {q : List Nat} (h : Blks l bs s q) (hb : q.length ≤ bs) : q.Perm (List.range' s q.length) ∧ q.Pairwise (ilt l) := by
  cases h with
  | last _ _ h hp hs => exact ⟨hp, hs⟩
  | more _ M q h hp hs hq =>
    have hq0 : q = [] := List.eq_nil_of_length_eq_zero (by simp at hb; omega)
    subst hq0
    rw [List.append_nil]
    exact ⟨hp, hs⟩
theorem perm_lt {M : List Nat} {s k x : Nat} (h : M.Perm (List.range' s k)) (hx : x ∈ M) : s ≤ x ∧ x < s + k := by
  have := h.mem_iff.1 hx
  rwa [List.mem_range'_1] at this
theorem perm_two {M M1 M2 : List Nat} {s : Nat} (h : M.Perm (M1 ++ M2)) (h1 : M1.Perm (List.range' s M1.length)) (h2 : M2.Perm (List.range' (s + M1.length) M2.length)) : M.Perm (List.range' s M.length) := by
  have e : List.range' s M.length = List.range' s M1.length ++ List.range' (s + M1.length) M2.length := by
    rw [h.length_eq, List.length_append, List.range'_append_1]
  rw [e]
  exact h.trans (h1.append h2)

theorem perm_seg {M : List Nat} {s k : Nat} (h : M.Perm (List.range' s k)) : M.length = k ∧ M.Perm (List.range' s M.length) := by
  have e := h.length_eq
  rw [List.length_range'] at e
  exact ⟨e, by rw [e]; exact h⟩

end Go.Proofs.Ytimbchkoomjhkaa

/-! ItS8 -/
namespace Go.Proofs.Ytimbchkoomjhkaa
open Go.RowKit

theorem insAnyI (it : List (Int × Int)) (g off cap n : Nat) (pre post : List Value) (l : List (List Int)) (hlc : l = lcl it) (A C : List Nat) (a b : Nat) (w : World) (hb : Rit0 it g off pre post (A ++ List.range' a (b - a) ++ C) w) (hp : A.length + (b - a) + C.length = n) (hn : n ≤ 1000000)
    (ha : a = A.length) (hab : a ≤ b) (hl : b ≤ l.length) :
    Calls Try.prog 90 #[.slice (some ⟨g, off, none⟩) n cap, .int .i64 a, .int .i64 b, .func (.func 58) #[] #[]] w fun e w' => e = .returned (.tuple #[]) ∧
      ∃ M, M.Perm (List.range' a (b - a)) ∧ M.Pairwise (ilt l) ∧ Rit it g off pre post w (A ++ M ++ C) w' := by
  rcases Nat.lt_or_ge a b with h | h
  · exact insSomeI it g off cap n pre post l hlc A C a b w hb hp hn ha h hl
  · obtain rfl : a = b := by omega
    refine (insNoneI g off cap n a _ w (by omega)).mono ?_
    rintro e w' ⟨rfl, rfl⟩
    refine ⟨rfl, [], by rw [Nat.sub_self]; exact List.Perm.refl _, List.Pairwise.nil, ?_⟩
    rw [Nat.sub_self] at hb
    exact Rit.refl hb
set_option maxHeartbeats 4000000 in
set_option maxRecDepth 100000 in
theorem stableItems (it : List (Int × Int)) (g off cap n : Nat) (pre post : List Value) (l : List (List Int)) (hlc : l = lcl it) (w : World) (hb : Rit0 it g off pre post (List.range' 0 n) w) (hn : n ≤ 1000000) (hl : n = l.length) :
    Calls Try.prog 78 #[.slice (some ⟨g, off, none⟩) n cap, .int .i64 n, .func (.func 58) #[] #[]] w fun e w' => e = .returned (.tuple #[]) ∧
      ∃ M, IsPl l n M ∧ Rit it g off pre post w M w' := by
  have HR := hid (Rit.refl hb)
  have HLC := hid hlc
  have HL := hid hl
  clear hb hlc hl
  go_enter Try.func78, Try.ntmps78
  go_wp2
  go_loopw [7, 8] (fun av bv wr => ∃ (a b : Nat) (A : List Nat), av = .int .i64 a ∧ bv = .int .i64 b ∧ a ≤ n ∧ Hid (b = a + 20 ∧ a = A.length ∧ Pre l 20 a A) ∧ b ≤ n + 20 ∧ Hid (Rit it g off pre post w (A ++ List.range' a (n - a)) wr)) (fun _ bv _ => n + 20 - (intOf bv).toNat)
  case atStart => exact ⟨0, 20, [], rfl, rfl, by omega, ⟨rfl, rfl, Pre.nil _ _⟩, by omega, by rw [List.nil_append, Nat.sub_zero]; exact HR.out⟩
  case round =>
    obtain ⟨a, b, A, rfl, rfl, ha, hab, hbn, hr⟩ := hrel
    by_cases hlt : b ≤ n
    · have HBX : Hid (Rit0 it g off pre post (A ++ List.range' a (b - a) ++ List.range' b (n - b)) wr) := hid (by
        have h := hr.out.1
        rw [show n - a = (b - a) + (n - b) by have := hab.out; omega, ← List.range'_append_1, show a + (b - a) = b by have := hab.out; omega, ← List.append_assoc] at h
        exact h)
      go_wp2_with (go_at_call 90; refine (insSomeI it g off cap n pre post l HLC.out A (List.range' b (n - b)) a b wr HBX.out (by have := hab.out; simp only [List.length_range']; omega) (by omega) hab.out.2.1 (by have := hab.out; omega) (by have := HL.out; omega)).mono ?_; rintro e5 w5 ⟨rfl, M, hp5, hs5, hr5⟩; have HP5 := hid hp5; have HS5 := hid hs5; have HR5 := hid (hr.out.trans hr5); clear hp5 hs5 hr5)
      have HM : Hid (M.length = 20) := hid (by have := HP5.out.length_eq; have := hab.out; simp only [List.length_range'] at *; omega)
      go_roundw
      case rel => exact ⟨b, b + 20, A ++ M, rfl, by first | rfl | go_num, hlt, ⟨rfl, by have := hab.out; have := HM.out; simp only [List.length_append]; omega, by have h := hab.out.2.2.next HM.out (by have := HP5.out; rwa [show b - a = M.length by have := hab.out; have := HM.out; omega] at this) HS5.out; rwa [← hab.out.1] at h⟩, by omega, HR5.out⟩
      case measure => simp [intOf]; omega
    · have HBX : Hid (Rit0 it g off pre post (A ++ List.range' a (n - a) ++ []) wr) := hid (by rw [List.append_nil]; exact hr.out.1)
      go_wp2_with (go_at_call 90; refine (insAnyI it g off cap n pre post l HLC.out A [] a n wr HBX.out (by have := hab.out; simp only [List.length_nil]; omega) (by omega) hab.out.2.1 ha (by have := HL.out; omega)).mono ?_; rintro e5 w5 ⟨rfl, M, hp5, hs5, hr5⟩; have HP5 := hid hp5; have HS5 := hid hs5; have HR5 := hid (hr.out.trans hr5); clear hp5 hs5 hr5)
      have HB0 : Hid (Blks l 20 0 (A ++ M) ∧ (A ++ M).length = n) := hid (by
        have h := perm_seg HP5.out
        refine ⟨hab.out.2.2 _ (.last a M (by have := hab.out; omega) h.2 HS5.out), by have := hab.out; rw [List.length_append]; omega⟩)
      have HR6 : Hid (Rit it g off pre post w (A ++ M) w5) := hid (by have := HR5.out; rwa [List.append_nil] at this)
      clear HBX HR HP5 HS5 HR5
      go_loopw [6] (fun sv wr => ∃ (bs : Nat) (p : List Nat), sv = .int .i64 bs ∧ 20 ≤ bs ∧ bs ≤ 2 * n + 20 ∧ Hid (Blks l bs 0 p ∧ p.length = n) ∧ Hid (Rit it g off pre post w p wr)) (fun sv _ => 2 * n + 20 - (intOf sv).toNat)
      case atStart => exact ⟨20, A ++ M, rfl, by omega, by omega, HB0.out, HR6.out⟩
      case round =>
        clear hr hab HB0 HR6 ha hbn hlt
        obtain ⟨bs, p, rfl, h20, h2n, hbl, hr⟩ := hrel
        by_cases hlt : bs < n
        · obtain ⟨b2, hb2⟩ : ∃ b2, b2 = 2 * bs := ⟨_, rfl⟩
          have w2 : (2 : Int) * (bs : Int) = (b2 : Int) := by omega
          have w3 : (bs : Int) * 2 = (b2 : Int) := by omega
          have hb2n : b2 ≤ 2 * n := by omega
          have HB2 := hid hb2
          clear hb2
          go_wp2_with (fail)
          go_loopw [7, 8] (fun av bv wr => ∃ (a b : Nat) (A q : List Nat), av = .int .i64 a ∧ bv = .int .i64 b ∧ a ≤ n ∧ b ≤ n + b2 ∧ a ≤ b ∧ Hid (b = a + b2 ∧ a = A.length ∧ A.length + q.length = n ∧ Pre l b2 a A ∧ Blks l bs a q) ∧ Hid (Rit it g off pre post w (A ++ q) wr)) (fun _ bv _ => n + b2 - (intOf bv).toNat)
          case atStart => exact ⟨0, b2, [], p, rfl, rfl, by omega, by omega, by omega, ⟨by omega, rfl, by simpa using hbl.out.2, Pre.nil _ _, hbl.out.1⟩, by rw [List.nil_append]; exact hr.out⟩
          case round =>
            clear hr hbl
            obtain ⟨a, b, A, q, rfl, rfl, han, hbn2, hab', hab, hr⟩ := hrel
            obtain ⟨m, hm⟩ : ∃ m, m = a + bs := ⟨_, rfl⟩
            have w4 : (a : Int) + (bs : Int) = (m : Int) := by omega
            by_cases hltb : b ≤ n
            · have hcut : ∃ M1 M2 q', q = M1 ++ (M2 ++ q') ∧ (M1.length = bs ∧ M2.length = bs) ∧ (M1.Perm (List.range' a M1.length) ∧ M2.Perm (List.range' m M2.length)) ∧ (M1.Pairwise (ilt l) ∧ M2.Pairwise (ilt l)) ∧ Blks l bs (a + b2) q' := by
                obtain ⟨M1, q1, rfl, h1, h2, h3, h4⟩ := hab.out.2.2.2.2.cut (by have := hab.out; have := HB2.out; omega)
                obtain ⟨M2, q2, rfl, k1, k2, k3, k4⟩ := h4.cut (by have h9 := hab.out.2.2.1; have := hab.out.1; have := hab.out.2.1; have := HB2.out; rw [List.length_append] at h9; omega)
                exact ⟨M1, M2, q2, rfl, ⟨h1, k1⟩, ⟨h2, by rw [hm]; exact k2⟩, ⟨h3, k3⟩, by rw [show a + b2 = a + bs + bs by have := HB2.out; omega]; exact k4⟩
              obtain ⟨M1, M2, q', rfl, hML, hMP, hMS, hMq⟩ := hcut
              have hlow : ∀ x ∈ M1, ∀ y ∈ M2, x < y := fun x hx y hy => by
                have h1 := perm_lt hMP.1 hx
                have h2 := perm_lt hMP.2 hy
                omega
              have htop : ∀ y ∈ M2, y < l.length := fun y hy => by
                have h2 := perm_lt hMP.2 hy
                have := hab.out
                have := HL.out
                have := HB2.out
                omega
              have HLOW := hid hlow
              have HTOP := hid htop
              have HML := hid hML
              have HMP := hid hMP
              have HMS := hid hMS
              have HMQ := hid hMq
              have HM := hid hm
              have HLEN := hid (show A.length + bs + bs + q'.length = n by have h9 := hab.out.2.2.1; simp only [List.length_append] at h9; omega)
              have HBX : Hid (Rit0 it g off pre post (A ++ M1 ++ M2 ++ q') wr) := hid (by have h := hr.out.1; simpa using h)
              clear hlow htop hML hMP hMS hMq hm
              go_wp2_with (go_at_call 91; refine (symAllI it g off cap n pre post l HLC.out (by omega) n A M1 M2 q' a m b wr HBX.out (by have := HML.out; have := HLEN.out; omega) hab.out.2.1 (by have := HML.out; have := HM.out; omega) (by have := HML.out; have := HM.out; have := hab.out.1; have := HB2.out; omega) (by have := HML.out; omega) (by have := HML.out; omega) (by have := HML.out; have := HLEN.out; omega) HTOP.out HLOW.out HMS.out.1 HMS.out.2).mono ?_; rintro e5 w5 ⟨rfl, M, hp5, hs5, hr5⟩; have HP5 := hid hp5; have HS5 := hid hs5; have HR5 := hid (hr.out.trans hr5); clear hp5 hs5 hr5)
              have HMM : Hid (M.length = b2 ∧ M.Perm (List.range' a M.length)) := hid ⟨by have h9 := HP5.out.length_eq; rw [List.length_append] at h9; have := HML.out; have := HB2.out; omega, perm_two HP5.out HMP.out.1 (by rw [show a + M1.length = m by have := HML.out; have := HM.out; omega]; exact HMP.out.2)⟩
              go_roundw
              case rel => exact ⟨b, b + b2, A ++ M, q', rfl, by first | rfl | go_num, hltb, by omega, by omega, ⟨rfl, by rw [List.length_append]; have := hab.out.1; have := hab.out.2.1; have := HMM.out.1; omega, by rw [List.length_append]; have := HMM.out.1; have := HLEN.out; have := HB2.out; omega, by have h := hab.out.2.2.2.1.next HMM.out.1 HMM.out.2 HS5.out; rwa [← hab.out.1] at h, by rw [hab.out.1]; exact HMQ.out⟩, HR5.out⟩
              case measure => simp [intOf]; omega
            · by_cases hmn : m < n
              · have hcut : ∃ M1 M2, q = M1 ++ M2 ∧ (M1.length = bs ∧ M2.length = n - m) ∧ (M1.Perm (List.range' a M1.length) ∧ M2.Perm (List.range' m M2.length)) ∧ (M1.Pairwise (ilt l) ∧ M2.Pairwise (ilt l)) := by
                  obtain ⟨M1, q1, rfl, h1, h2, h3, h4⟩ := hab.out.2.2.2.2.cut (by have := hab.out; omega)
                  have hq1 : q1.length = n - m := by have h9 := hab.out.2.2.1; rw [List.length_append] at h9; have := hab.out.2.1; omega
                  have h5 := h4.one (by have := hab.out.1; have := HB2.out; omega)
                  exact ⟨M1, q1, rfl, ⟨h1, hq1⟩, ⟨h2, by rw [hm]; exact h5.1⟩, ⟨h3, h5.2⟩⟩
                obtain ⟨M1, M2, rfl, hML, hMP, hMS⟩ := hcut
                have hlow : ∀ x ∈ M1, ∀ y ∈ M2, x < y := fun x hx y hy => by
                  have h1 := perm_lt hMP.1 hx
                  have h2 := perm_lt hMP.2 hy
                  omega
                have htop : ∀ y ∈ M2, y < l.length := fun y hy => by
                  have h2 := perm_lt hMP.2 hy
                  have := HL.out
                  omega
                have HLOW := hid hlow
                have HTOP := hid htop
                have HML := hid hML
                have HMP := hid hMP
                have HMS := hid hMS
                have HM := hid hm
                have HLEN := hid (show A.length + bs + (n - m) = n by have h9 := hab.out.2.2.1; simp only [List.length_append] at h9; omega)
                have HBX : Hid (Rit0 it g off pre post (A ++ M1 ++ M2 ++ []) wr) := hid (by have h := hr.out.1; simpa using h)
                clear hlow htop hML hMP hMS hm
                go_wp2_with (go_at_call 91; refine (symAllI it g off cap n pre post l HLC.out (by omega) n A M1 M2 [] a m n wr HBX.out (by have := HML.out; have := HLEN.out; simp only [List.length_nil]; omega) hab.out.2.1 (by have := HML.out; have := HM.out; omega) (by have := HML.out; omega) (by have := HML.out; omega) (by have := HML.out; omega) (by have := HML.out; have := HLEN.out; omega) HTOP.out HLOW.out HMS.out.1 HMS.out.2).mono ?_; rintro e5 w5 ⟨rfl, M, hp5, hs5, hr5⟩; have HP5 := hid hp5; have HS5 := hid hs5; have HR5 := hid (hr.out.trans hr5); clear hp5 hs5 hr5)
                have HMM : Hid (M.length + a = n ∧ M.Perm (List.range' a M.length)) := hid ⟨by have h9 := HP5.out.length_eq; rw [List.length_append] at h9; have := HML.out; have := HM.out; omega, perm_two HP5.out HMP.out.1 (by rw [show a + M1.length = m by have := HML.out; have := HM.out; omega]; exact HMP.out.2)⟩
                go_roundw
                case rel => exact ⟨b2, A ++ M, rfl, by have := HB2.out; omega, by omega, ⟨hab.out.2.2.2.1 _ (.last a M (by have := HMM.out.1; have := hab.out.1; omega) HMM.out.2 HS5.out), by rw [List.length_append]; have := HMM.out.1; have := hab.out.2.1; omega⟩, by have := HR5.out; rwa [List.append_nil] at this⟩
                case measure => have := HB2.out; simp [intOf]; omega
              · have h5 := hab.out.2.2.2.2.one (by have := hab.out; omega)
                have HQ := hid h5
                have HM := hid hm
                clear h5 hm
                go_wp2
                go_roundw
                case rel => exact ⟨b2, A ++ q, rfl, by have := HB2.out; omega, by omega, ⟨hab.out.2.2.2.1 _ (.last a q (by have := hab.out; have := HM.out; have := HB2.out; omega) HQ.out.1 HQ.out.2), by rw [List.length_append]; exact hab.out.2.2.1⟩, hr.out⟩
                case measure => have := HB2.out; simp [intOf]; omega
        · have h5 := hbl.out.1.one (by have := hbl.out.2; omega)
          rw [hbl.out.2, ← List.range_eq_range'] at h5
          have HQ := hid h5
          clear h5
          go_wp2
          go_end0
          exact ⟨rfl, p, HQ.out, hr.out⟩
end Go.Proofs.Ytimbchkoomjhkaa
