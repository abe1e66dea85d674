/- Contracts of the library's merge of two neighbouring runs, whole, and of its insertion sort of one run (slices.symMergeCmpFunc, slices.insertionSortCmpFunc at []int). -/
import Derived.Test.YtgdbjbkmkdkhhaaStab6
namespace Go.Proofs.Ytgdbjbkmkdkhhaa
open Go.RowKit

theorem symAll (l : List (List Int)) (B g cap n : Nat) (hn : n ≤ 1000000) : ∀ N, SymAt l B g cap n N
  | 0 => fun A L R C a m b w hb hp ha hm hbb hL hR hN => by omega
  | N + 1 => fun A L R C a m b w hb hp ha hm hbb hL hR hN hc h1 h2 h3 h4 => by
    rcases Nat.lt_or_ge 1 L.length with hl | hl
    · rcases Nat.lt_or_ge 1 R.length with hr | hr
      · exact symGen l B g cap n N hn (symAll l B g cap n hn N) A L R C a m b w hb hp ha hm hbb hl hr hN hc h1 h2 h3 h4
      · obtain ⟨y, rfl⟩ := List.length_eq_one_iff.1 (show R.length = 1 by omega)
        exact symRight l B g cap n A L C y a m b w hb (by simpa using hp) hn ha hm (by simpa using hbb) hl hc (h1 y (by simp)) (fun x hx => h2 x hx y (by simp)) h3
    · obtain ⟨x, rfl⟩ := List.length_eq_one_iff.1 (show L.length = 1 by omega)
      have hy : R.getD 0 0 ∈ R := getD_mem hR
      exact symLeft l B g cap n A R C x a m b w hb (by simpa using hp) hn ha (by simpa using hm) hbb hc (Nat.lt_trans (h2 x (by simp) _ hy) (h1 _ hy)) (fun y hy => ⟨h2 x (by simp) y hy, h1 y hy⟩) h4

theorem CmpAt.run0 {l : List (List Int)} {B g : Nat} {w : World} (h : CmpAt l B g w) (m : Nat) {x y : Nat} (hx : x < l.length) (hy : y < l.length) :
    Calls Try.prog 24 #[.int .i64 x, .int .i64 y, .pointer (some ⟨B, 0, none⟩)] (w.drewN m) fun e w' => e = .returned (.int .i64 (cmpS (rowAt l x) (rowAt l y))) ∧ ∃ k, w' = w.drewN k :=
  quiet_at0 (h (w.drewN m) ⟨rfl, rfl, rfl, Nat.le_refl _, fun _ _ _ => rfl⟩ x y hx hy)
theorem shL_x {A S T : List Nat} {x c j : Nat} (h : c ≤ S.length) (hj : j = A.length + c) : (shL A S T x c).getD j 0 = x := by
  unfold shL
  rw [hj, show A.length + c = (A ++ S.take c).length by rw [List.length_append, List.length_take]; omega, getD_mid]
theorem shL_y {A S T : List Nat} {x c j : Nat} (h : c < S.length) (hj : j = A.length + c) : (shL A S T x (c + 1)).getD j 0 = S.getD c 0 := by
  have e2 : S.take (c + 1) = S.take c ++ [S.getD c 0] := by
    rw [List.take_add_one, List.getD_eq_getElem?_getD, List.getElem?_eq_getElem h]; rfl
  unfold shL
  rw [e2, hj, show A ++ (S.take c ++ [S.getD c 0]) ++ x :: (S.drop (c + 1) ++ T) = (A ++ S.take c) ++ S.getD c 0 :: (x :: (S.drop (c + 1) ++ T)) by simp,
    show A.length + c = (A ++ S.take c).length by rw [List.length_append, List.length_take]; omega, getD_mid]

set_option maxHeartbeats 4000000 in
set_option maxRecDepth 100000 in
theorem insNone (g cap n a : Nat) (cb : Value) (w : World) (hn : a ≤ 1000000) :
    Calls Try.prog 30 #[.slice (some ⟨g, 0, none⟩) n cap, .int .i64 a, .int .i64 a, cb] w fun e w' => e = .returned (.tuple #[]) ∧ w = w' := by
  go_enter Try.func30, Try.ntmps30
  go_wp2
  go_loopw [8] (fun iv wr => iv = .int .i64 (a + 1 : Nat) ∧ w = wr) (fun iv _ => 0)
  case atStart => exact ⟨by go_num, rfl⟩
  case round =>
    obtain ⟨rfl, rfl⟩ := hrel
    go_wp2
    go_end0
    exact ⟨rfl, rfl⟩

set_option maxHeartbeats 4000000 in
set_option maxRecDepth 100000 in
theorem insSome (l : List (List Int)) (B g cap n : Nat) (A C : List Nat) (a b : Nat) (w : World) (hb : Box 3 (cv (A ++ List.range' a (b - a) ++ C)) g w) (hp : A.length + (b - a) + C.length = n) (hn : n ≤ 1000000)
    (ha : a = A.length) (hab : a < b) (hc : CmpAt l B g w) (hl : b ≤ l.length) :
    Calls Try.prog 30 #[.slice (some ⟨g, 0, none⟩) n cap, .int .i64 a, .int .i64 b, .func (.func 24) #[] #[.pointer (some ⟨B, 0, none⟩)]] w fun e w' => e = .returned (.tuple #[]) ∧
      ∃ M, M.Perm (List.range' a (b - a)) ∧ M.Pairwise (ilt l) ∧ Rown g w (A ++ M ++ C) w' := by
  have HR := hid (Rown.refl hb)
  have HC := hid hc
  have hbn : b ≤ n := by omega
  have HA := hid (show a = A.length ∧ A.length + (b - a) + C.length = n ∧ b ≤ l.length from ⟨ha, hp, hl⟩)
  clear hb hc ha hp hl
  go_enter Try.func30, Try.ntmps30
  go_wp2
  go_loopw [8] (fun iv wr => ∃ (i : Nat) (S : List Nat), iv = .int .i64 i ∧ a < i ∧ i ≤ b ∧ Hid (S.Perm (List.range' a (i - a)) ∧ S.Pairwise (ilt l)) ∧ Hid (Rown g w (A ++ S ++ (List.range' i (b - i) ++ C)) wr)) (fun iv _ => b - (intOf iv).toNat)
  case atStart =>
    refine ⟨a + 1, [a], by go_num, by omega, by omega, ⟨by rw [Nat.add_sub_cancel_left]; exact List.Perm.refl _, List.pairwise_singleton _ _⟩, ?_⟩
    have h := HR.out
    rw [show b - a = (b - (a + 1)) + 1 by omega, List.range'_succ] at h
    have h2 : Rown g w (A ++ [a] ++ (List.range' (a + 1) (b - (a + 1)) ++ C)) w := by simpa using h
    exact h2
  case round =>
    obtain ⟨i, S, rfl, hai, hib, hS, hr⟩ := hrel
    by_cases hlt : i < b
    · have hSl : S.length = i - a := by have := hS.out.1.length_eq; simpa using this
      have hSm : ∀ y ∈ S, y < i := fun y hy => by
        have := hS.out.1.mem_iff.1 hy
        rw [List.mem_range'_1] at this
        omega
      obtain ⟨T, hT⟩ : ∃ T, T = List.range' (i + 1) (b - (i + 1)) ++ C := ⟨_, rfl⟩
      have HR1 : Hid (Rown g w (shL A S T i S.length) wr) := hid (by
        rw [shL_full, hT]
        have h := hr.out
        rw [show b - i = (b - (i + 1)) + 1 by omega, List.range'_succ] at h
        simpa using h)
      have HT := hid (show T = List.range' (i + 1) (b - (i + 1)) ++ C ∧ A.length + S.length + 1 + T.length = n from ⟨hT, by rw [hT]; have := HA.out; simp; omega⟩)
      have HSM := hid hSm
      have HSL := hid hSl
      clear hT hSm hSl hr
      go_wp2
      go_loopw [9] (fun jv wi => ∃ (j c : Nat), jv = .int .i64 j ∧ a ≤ j ∧ j ≤ i ∧ Hid (j = a + c ∧ c ≤ S.length) ∧ Hid (c = S.length ∨ ilt l i (S.getD c 0)) ∧ Hid (Rown g w (shL A S T i c) wi)) (fun jv _ => (intOf jv).toNat)
      case atStart => exact ⟨i, S.length, rfl, by omega, by omega, ⟨by have := HSL.out; omega, Nat.le_refl _⟩, .inl rfl, HR1.out⟩
      case round =>
        obtain ⟨j, c, rfl, haj, hji, hjc, hord, hr⟩ := hrel
        have HEND : Hid (c = 0 ∨ ilt l (S.getD (c - 1) 0) i → ∀ wz, Rown g w (shL A S T i c) wz → ∃ (S' : List Nat), (S'.Perm (List.range' a (i + 1 - a)) ∧ S'.Pairwise (ilt l)) ∧ Rown g w (A ++ S' ++ (List.range' (i + 1) (b - (i + 1)) ++ C)) wz) := hid fun h wz hz => by
          refine ⟨S.take c ++ i :: S.drop c, ⟨?_, pw_put hS.out.2 hjc.out.2 h hord.out⟩, ?_⟩
          · refine (put_perm S i c).trans ?_
            rw [show i + 1 - a = (i - a) + 1 by omega, List.range'_concat]
            refine (List.Perm.cons i hS.out.1).trans ?_
            rw [show a + 1 * (i - a) = i by omega]
            exact List.perm_append_comm (l₁ := [i]) (l₂ := List.range' a (i - a))
          · rw [← HT.out.1, ← shL_end]; exact hz
        by_cases hja : a < j
        · have hjg : decide ((j : Int) > (a : Int)) = true := decide_eq_true (by omega)
          obtain ⟨c, rfl⟩ : ∃ c', c = c' + 1 := ⟨c - 1, by have := hjc.out; omega⟩
          obtain ⟨j1, hj1⟩ : ∃ j1, j1 = j - 1 := ⟨_, rfl⟩
          have hcS : c < S.length := by have := hjc.out; omega
          have hst := shL_back (A := A) (L := S) (C := T) (y := i) (c := c) hcS
          have e1 : (shL A S T i (c + 1)).getD j 0 = i := shL_x (by omega) (by have := hjc.out; have := HA.out; omega)
          have e2 : (shL A S T i (c + 1)).getD j1 0 = S.getD c 0 := shL_y hcS (by have := hjc.out; have := HA.out; omega)
          rw [← HA.out.1, show a + c + 1 = j by have := hjc.out; omega, show a + c = j1 by have := hjc.out; omega] at hst
          have HST := hid hst
          have hpl : (shL A S T i (c + 1)).length = n := by rw [shL_len]; have := HT.out; omega
          have c1 := hr.out.at (i := j) (by omega)
          have c2 := hr.out.at (i := j1) (by omega)
          have f1 := hr.out.ice j
          have f2 := hr.out.ice j1
          rw [e1] at c1
          rw [e2] at c2
          have HE1 := hid e1
          have HE2 := hid e2
          obtain ⟨y, hy⟩ : ∃ y, y = S.getD c 0 := ⟨_, rfl⟩
          rw [← hy] at c2
          have hyi : y < i := HSM.out y (by rw [hy]; exact getD_mem hcS)
          have HY := hid hy
          have HYI := hid hyi
          have w6 : (j : Int) - 1 = (j1 : Int) := by omega
          have n1 : j ≠ j1 := by omega
          have n2 : j1 ≠ j := by omega
          have b1 : j < n := by omega
          have b2 : j1 < n := by omega
          have HJ1 := hid (show j = j1 + 1 by omega)
          have hil : i < l.length := by have := HA.out; omega
          have HIL := hid hil
          have HCS := hid hcS
          clear hst hpl e1 e2 hy hyi hcS hj1 hil
          go_wp2_with (fail)
          go_quiet (first | (go_at_call 24; exact (HC.out.next hr.out.2).run0 _ HIL.out (Nat.lt_trans HYI.out HIL.out)))
          by_cases he : cmpS (rowAt l i) (rowAt l y) < 0
          · have HN : Hid (ilt l i (S.getD c 0)) := hid (by rw [← HY.out]; exact (cmp_lt HYI.out).1 he)
            generalize cmpS (rowAt l i) (rowAt l y) = z at he
            have HR2 := hid (hr.out.drewN nq)
            have c1' : (wr.drewN nq).cell? ⟨g, j, none⟩ = some (.int .i64 (i : Nat)) := c1
            have c2' : (wr.drewN nq).cell? ⟨g, j1, none⟩ = some (.int .i64 (y : Nat)) := c2
            have f1' : (wr.drewN nq).frozen? ⟨g, j, none⟩ = false := f1
            have f2' : (wr.drewN nq).frozen? ⟨g, j1, none⟩ = false := f2
            clear c1 c2 f1 f2 HEND hr
            generalize wr.drewN nq = wk at HR2 c1' c2' f1' f2' ⊢
            go_wp2_with (fail)
            go_big_region
            all_goals go_wp2
            go_roundw
            case rel => exact ⟨j1, c, by first | rfl | go_num, by omega, by omega, ⟨by have := hjc.out; have := HJ1.out; omega, by have := HCS.out; omega⟩, .inr HN.out, by rw [← HST.out]; exact (HR2.out.swap j j1 (by rw [HE1.out]) (by rw [HE2.out, HY.out])).drewN 1⟩
            case measure => have := HJ1.out; simp [intOf]; omega
          · have HN : Hid (c + 1 = 0 ∨ ilt l (S.getD (c + 1 - 1) 0) i) := hid (.inr (by rw [Nat.add_sub_cancel, ← HY.out]; exact (cmp_ge HYI.out).1 he))
            generalize cmpS (rowAt l i) (rowAt l y) = z at he
            obtain ⟨S', hS', hR'⟩ := HEND.out HN.out _ (hr.out.drewN nq)
            have HS2 := hid hS'
            have HR2 := hid hR'
            clear hS' hR' HEND
            go_wp2
            go_roundw
            case rel => exact ⟨i + 1, S', by go_num, by omega, by omega, HS2.out, HR2.out⟩
            case measure => simp [intOf]; omega
        · have hjg : decide ((j : Int) > (a : Int)) = false := decide_eq_false (by omega)
          obtain rfl : j = a := by omega
          obtain ⟨S', hS', hR'⟩ := HEND.out (.inl (by have := hjc.out; omega)) _ (hr.out.drewN 1)
          have HS2 := hid hS'
          have HR2 := hid hR'
          clear hS' hR' HEND
          go_wp2_with (fail)
          go_big_region
          all_goals go_wp2
          go_roundw
          case rel => exact ⟨i + 1, S', by go_num, by omega, by omega, HS2.out, HR2.out⟩
          case measure => simp [intOf]; omega
    · obtain rfl : i = b := by omega
      go_wp2
      go_end0
      refine ⟨rfl, S, hS.out.1, hS.out.2, ?_⟩
      have h := hr.out
      simpa using h
end Go.Proofs.Ytgdbjbkmkdkhhaa
