/- Several texts in one: Prep21a. -/
import Derived.Test.YtidjjaginindoaaGreatPk25
import Derived.Test.YtidjjaginindoaaGreatPk3
import Derived.Test.YtidjjaginindoaaGreatPk1
/-! Prep21a -/
namespace Go.Proofs.YtidjjaginindoaaGreat
open Go.RowKit

/-! ### what the steps do, plainly -/
def preR (c : Int) : List Int := if hasS tabNothing c = true then [] else if hasS tabSpaces c = true then [32] else [c]
def preS (s : List Int) : List Int := s.flatMap preR
theorem preS_len (s : List Int) : (preS s).length ≤ s.length := by
  unfold preS
  induction s with
  | nil => simp
  | cons c s ih =>
    rw [List.flatMap_cons, List.length_append, List.length_cons]
    have : (preR c).length ≤ 1 := by unfold preR; split; · simp
                                     split <;> simp
    omega
theorem preS_inI {s : List Int} (h : s.all inI = true) : (preS s).all inI = true := by
  rw [List.all_eq_true] at h ⊢
  intro x hx
  unfold preS at hx
  obtain ⟨c, hc, hx⟩ := List.mem_flatMap.1 hx
  unfold preR at hx
  split at hx
  · simp at hx
  · split at hx
    · rw [List.mem_singleton.1 hx]; rfl
    · rw [List.mem_singleton.1 hx]; exact h c hc
theorem preS_snoc (s : List Int) (j : Nat) (h : j < s.length) : preS (s.take (j + 1)) = preS (s.take j) ++ preR (s.getD j 0) := by
  have e : s.take (j + 1) = s.take j ++ [s.getD j 0] := by
    rw [List.getD_eq_getElem?_getD, List.getElem?_eq_getElem h, Option.getD_some]
    exact (List.take_append_getElem h).symm
  unfold preS
  rw [e, List.flatMap_append]
  simp
theorem fold_32 : foldS 32 = [32] := by decide +kernel
theorem map_off {r : Int} (h : ¬(r = 1 ∨ r = 2)) (s : List Int) : mapP r s = preS s := by
  unfold mapP preS
  congr 1
  funext c
  unfold mapR preR
  rw [if_neg h]
theorem map_on {r : Int} (h : r = 1 ∨ r = 2) (s : List Int) : mapP r s = foldAllS (preS s) := by
  unfold mapP preS foldAllS
  rw [List.flatMap_assoc]
  congr 1
  funext c
  unfold mapR preR
  rw [if_pos h]
  split
  · rfl
  · split
    · simp [fold_32]
    · simp

/-! ### the rules -/
theorem prIgnores (r : Int) (w : World) : Calls Tryz.prog 35 #[.int .i64 r] w fun e w' => e = .returned (.bool (decide (r = 1 ∨ r = 2))) ∧ w = w' := by
  by_cases h1 : r = 1
  · subst h1
    go_enter Tryz.func35, Tryz.ntmps35
    go_wp2
    go_ret
    exact ⟨rfl, rfl⟩
  by_cases h2 : r = 2
  · subst h2
    go_enter Tryz.func35, Tryz.ntmps35
    go_wp2
    go_ret
    exact ⟨rfl, rfl⟩
  have HR := hid (show decide (r = 1 ∨ r = 2) = false from decide_eq_false (by omega))
  have e1 : (r == 1) = false := by simp; omega
  have e2 : (r == 2) = false := by simp; omega
  clear h1 h2
  go_enter Tryz.func35, Tryz.ntmps35
  go_wp2
  go_ret
  exact ⟨by rw [HR.out]; rfl, rfl⟩
theorem prIsRule (r : Int) (w : World) : Calls Tryz.prog 30 #[.int .i64 r] w fun e w' => e = .returned (.bool (ruleP r)) ∧ w = w' := by
  have HC := hid (prIgnores r w)
  by_cases h1 : r = 1 ∨ r = 2
  · have HR := hid (show ruleP r = true from decide_eq_true (by omega))
    rw [decide_eq_true h1] at HC
    clear h1
    go_enter Tryz.func30, Tryz.ntmps30
    go_wp2_with (go_at_call 35; refine HC.out.mono ?_; rintro e w1 ⟨rfl, rfl⟩)
    go_ret
    exact ⟨by rw [HR.out]; rfl, rfl⟩
  rw [decide_eq_false h1] at HC
  by_cases h3 : r = 3
  · subst h3
    clear h1
    go_enter Tryz.func30, Tryz.ntmps30
    go_wp2_with (go_at_call 35; refine HC.out.mono ?_; rintro e w1 ⟨rfl, rfl⟩)
    go_ret
    exact ⟨rfl, rfl⟩
  · have HR := hid (show ruleP r = false from decide_eq_false (by omega))
    have e1 : (r == 3) = false := by simp; omega
    clear h1 h3
    go_enter Tryz.func30, Tryz.ntmps30
    go_wp2_with (go_at_call 35; refine HC.out.mono ?_; rintro e w1 ⟨rfl, rfl⟩)
    go_ret
    exact ⟨by rw [HR.out]; rfl, rfl⟩

/-! ### mapping -/
set_option maxHeartbeats 4000000 in
theorem prMapped (v : Value) (s : List Int) (w : World) (hs : Sl .i64 w v s) (hl : s.length ≤ 1000000) : Calls Tryz.prog 34 #[v] w fun e w' =>
    ∃ x, e = .returned x ∧ Own .i64 3 w.heap.size w' x (preS s) ∧ Below w.heap.size w w' := by
  obtain ⟨a1, cap1, rfl, q1, -, h1⟩ := hs
  obtain ⟨n, hn⟩ : ∃ n, n = s.length := ⟨_, rfl⟩
  obtain ⟨R, hR⟩ : ∃ R, R = preS s := ⟨_, rfl⟩
  have HN := hid hn
  have H1 := hid h1
  have HR := hid hR
  rw [← hR]
  rw [← hn] at q1 hl ⊢
  clear h1 hn hR
  go_enter Tryz.func34, Tryz.ntmps34
  go_wp2_with (fail)
  go_loopw [3, 5, 8] (fun lv _ iv wr => ∃ (j : Nat) (x : List Int), j ≤ n ∧ iv = .int .i64 j ∧ x.length ≤ j ∧ Hid (Own .i64 3 w.heap.size wr lv x) ∧ Hid (Below w.heap.size w wr) ∧ Hid (x = preS (s.take j))) (fun _ _ iv _ => n - (intOf iv).toNat)
  case atStart => exact ⟨0, [], by omega, rfl, by simp, Own.nil _ _ _ _, Below.refl _ _, rfl⟩
  case round =>
    obtain ⟨j, x, hj, rfl, hxl, hown, hbel, hput⟩ := hrel
    by_cases hlt : j < n
    · rcases H1.out with hcc | ⟨b1, o1, rfl, hb1, hc⟩
      · omega
      have hb1' := hb1 (by have := HN.out; omega)
      have d1 := (hbel.out.cell (p := ⟨b1, o1 + j, none⟩) hb1').trans (hc j (by have := HN.out; omega))
      have HP := hid (preS_snoc s j (by have := HN.out; omega))
      rw [← hput.out] at HP
      clear hc hb1 hb1' hput
      generalize s.getD j 0 = c at d1 HP
      have H5 := hid (fun w => ucdNothing c w)
      have H6 := hid (fun w => ucdSpace c w)
      unfold preR at HP
      generalize hasS tabNothing c = b at H5 HP
      generalize hasS tabSpaces c = d at H6 HP
      cases b with
      | true =>
        rw [if_pos rfl, List.append_nil] at HP
        go_wp2_with (go_at_call 65; refine (H5.out _).mono ?_; rintro e w1 ⟨rfl, hb1⟩; have HB1 := hid hb1; clear hb1)
        go_roundw
        case rel => exact ⟨j + 1, x, by omega, by go_num, by omega, hown.out.below HB1.out, hbel.out.trans (HB1.out.mono hbel.out.size), HP.out.symm⟩
        case measure => simp [intOf]; omega
      | false =>
        cases d with
        | true =>
          rw [if_neg (by simp), if_pos rfl] at HP
          have HX := hid (show (x ++ [(32 : Int)]).length = x.length + 1 by simp)
          go_wp2_with (first
            | (have _u := HB1; clear _u; go_at_call 66; refine (H6.out _).mono ?_; rintro e w2 ⟨rfl, hb2⟩; have HB2 := hid (HB1.out.trans (hb2.mono HB1.out.size)); clear hb2; have HO2 := hid (hown.out.below HB2.out); have HL2 := hid (hbel.out.trans (HB2.out.mono hbel.out.size)))
            | (go_at_call 65; refine (H5.out _).mono ?_; rintro e w1 ⟨rfl, hb1⟩; have HB1 := hid hb1; clear hb1)
            | (at_builtin; go_loud (refine wpList_app _ rfl _ _ 22 rfl .i64 w.heap.size 3 8 Tryz.underlying22 Tryz.infoI64 _ x [32] rfl (HO2.out.alloc _) _ rfl (one_sl (by first | simp | rfl)) (by unfold maxLen; simp; omega) (by simp; omega) (by have := HL2.out.size; simp; omega) ?_); intro v5 w5 ho5 hg5 hb5 hn5; have HO5 := hid ho5; have HB5 := hid ((HL2.out.alloc HL2.out.size _).trans hb5); clear ho5 hg5 hb5 hn5))
          go_roundw
          case rel => exact ⟨j + 1, x ++ [32], by omega, by go_num, by rw [HX.out]; omega, HO5.out, HB5.out, HP.out.symm⟩
          case measure => simp [intOf]; omega
        | false =>
          rw [if_neg (by simp), if_neg (by simp)] at HP
          have HX := hid (show (x ++ [c]).length = x.length + 1 by simp)
          go_wp2_with (first
            | (have _u := HB1; clear _u; go_at_call 66; refine (H6.out _).mono ?_; rintro e w2 ⟨rfl, hb2⟩; have HB2 := hid (HB1.out.trans (hb2.mono HB1.out.size)); clear hb2; have HO2 := hid (hown.out.below HB2.out); have HL2 := hid (hbel.out.trans (HB2.out.mono hbel.out.size)))
            | (go_at_call 65; refine (H5.out _).mono ?_; rintro e w1 ⟨rfl, hb1⟩; have HB1 := hid hb1; clear hb1)
            | (at_builtin; go_loud (refine wpList_app _ rfl _ _ 22 rfl .i64 w.heap.size 3 8 Tryz.underlying22 Tryz.infoI64 _ x [c] rfl (HO2.out.alloc _) _ rfl (one_sl (by first | simp | rfl)) (by unfold maxLen; simp; omega) (by simp; omega) (by have := HL2.out.size; simp; omega) ?_); intro v5 w5 ho5 hg5 hb5 hn5; have HO5 := hid ho5; have HB5 := hid ((HL2.out.alloc HL2.out.size _).trans hb5); clear ho5 hg5 hb5 hn5))
          go_roundw
          case rel => exact ⟨j + 1, x ++ [c], by omega, by go_num, by rw [HX.out]; omega, HO5.out, HB5.out, HP.out.symm⟩
          case measure => simp [intOf]; omega
    · obtain rfl : j = n := by omega
      have HP := hid (show x = R by rw [hput.out, HR.out, HN.out, List.take_length])
      go_wp2
      go_ret
      exact ⟨_, rfl, by rw [← HP.out]; exact hown.out, hbel.out⟩

set_option maxHeartbeats 1000000 in
theorem prMap (HF : FAllOk) : PrMapOk := by
  intro r v s w hr hs hi hl
  have HM := hid (prMapped v s w hs (by omega))
  have HC := hid (fun w => prIgnores r w)
  have hpi := preS_inI hi
  have hpl := preS_len s
  have HFA := hid (fun v w h => HF v (preS s) w h hpi (by omega))
  have hf := hs.form
  obtain ⟨a1, c1, rfl⟩ := hf
  by_cases h1 : r = 1 ∨ r = 2
  · have HE := hid (map_on h1 s)
    rw [decide_eq_true h1] at HC
    generalize mapP r s = Q at HE ⊢
    generalize preS s = P at HM HFA HE
    clear hs hi hl hpi hpl h1 HF
    go_enter Tryz.func14, Tryz.ntmps14
    go_wp2_with (first
      | (go_at_call 34; refine HM.out.mono ?_; rintro e w1 ⟨v1, rfl, ho1, hb1⟩; have HO1 := hid ho1; have HB1 := hid hb1; clear ho1 hb1)
      | (go_at_call 35; refine (HC.out _).mono ?_; rintro e w2 ⟨rfl, rfl⟩)
      | (go_at_call 22; refine (HFA.out _ _ HO1.out.sl).mono ?_; rintro e w3 ⟨v3, rfl, ho3, hb3⟩; have HO3 := hid ho3; have HB3 := hid (HB1.out.trans (hb3.mono HB1.out.size)); clear ho3 hb3))
    go_ret
    exact ⟨_, rfl, by rw [HE.out]; exact HO3.out.sl, HB3.out⟩
  · have HE := hid (map_off h1 s)
    rw [decide_eq_false h1] at HC
    generalize mapP r s = Q at HE ⊢
    generalize preS s = P at HM HFA HE
    clear hs hi hl hpi hpl h1 HF
    go_enter Tryz.func14, Tryz.ntmps14
    go_wp2_with (first
      | (go_at_call 34; refine HM.out.mono ?_; rintro e w1 ⟨v1, rfl, ho1, hb1⟩; have HO1 := hid ho1; have HB1 := hid hb1; clear ho1 hb1)
      | (go_at_call 35; refine (HC.out _).mono ?_; rintro e w2 ⟨rfl, rfl⟩))
    go_ret
    exact ⟨_, rfl, by rw [HE.out]; exact HO1.out.sl, HB1.out⟩

/-! ### what is prohibited -/
theorem prProhibited (c : Int) (w : World) : Calls Tryz.prog 40 #[.int .i64 c] w fun e w' => e = .returned (.bool (!okP c)) ∧ Below w.heap.size w w' := by
  have H1 := hid (fun w => ucdAssigned c w)
  have H2 := hid (fun w => ucdProhibited c w)
  unfold okP
  generalize hasS tabAssigned c = a at H1 ⊢
  generalize hasS tabProhibited c = b at H2 ⊢
  cases a with
  | false =>
    go_enter Tryz.func40, Tryz.ntmps40
    go_wp2_with (go_at_call 70; refine (H1.out _).mono ?_; rintro e w1 ⟨rfl, hb1⟩; have HB1 := hid hb1; clear hb1)
    go_ret
    exact ⟨rfl, HB1.out⟩
  | true =>
    go_enter Tryz.func40, Tryz.ntmps40
    go_wp2_with (first
      | (go_at_call 70; refine (H1.out _).mono ?_; rintro e w1 ⟨rfl, hb1⟩; have HB1 := hid hb1; clear hb1)
      | (go_at_call 71; refine (H2.out _).mono ?_; rintro e w2 ⟨rfl, hb2⟩; have HB2 := hid (HB1.out.trans (hb2.mono HB1.out.size)); clear hb2))
    go_ret
    exact ⟨by cases b <;> rfl, HB2.out⟩
theorem anyP_hit {l : List Int} {p : Int → Bool} {k : Nat} (h : k < l.length) (hp : p (l.getD k 0) = true) : l.any p = true := by
  rw [List.any_eq_true]
  exact ⟨l[k], List.getElem_mem _, by rw [List.getD_eq_getElem?_getD, List.getElem?_eq_getElem h] at hp; exact hp⟩
theorem anyP_none {l : List Int} {p : Int → Bool} (h : ∀ k, k < l.length → p (l.getD k 0) = false) : l.any p = false := by
  rw [List.any_eq_false]
  intro x hx
  obtain ⟨k, hk, rfl⟩ := List.getElem_of_mem hx
  have := h k hk
  rw [List.getD_eq_getElem?_getD, List.getElem?_eq_getElem hk] at this
  simpa using this
def RuleP (p : Int → Bool) (w : World) : Prop := ∀ wr, Below w.heap.size w wr → ∀ a : Int, inI a = true →
  Calls Tryz.prog 40 #[.int .i64 a] wr fun e w' => e = .returned (.bool (p a)) ∧ Below wr.heap.size wr w'
set_option maxHeartbeats 1000000 in
theorem idxP21 (p : Int → Bool) (v : Value) (l : List Int) (w : World) (h : Sl .i64 w v l) (hi : l.all inI = true) (hd : RuleP p w) :
    Calls Tryz.prog 69 #[v, .func (.func 40) #[] #[]] w fun e w' => ((l.any p = true ∧ ∃ k : Nat, e = .returned (.int .i64 (k : Int))) ∨ (l.any p = false ∧ e = .returned (.int .i64 (-1)))) ∧ Below w.heap.size w w' := by
  have ml := h.len
  obtain ⟨a1, cap1, rfl, q1, -, h1⟩ := h
  obtain ⟨n, hn⟩ : ∃ n, n = l.length := ⟨_, rfl⟩
  obtain ⟨R, hR⟩ : ∃ R, R = l.any p := ⟨_, rfl⟩
  have HH := hid (fun k (hk : k < n) (hp : p (l.getD k 0) = true) => (show R = true from by rw [hR]; exact anyP_hit (by omega) hp))
  have HN := hid (fun (hq : ∀ i, i < n → p (l.getD i 0) = false) => (show R = false from by rw [hR]; exact anyP_none (by rw [← hn]; exact hq)))
  have HI := hid (fun k (hk : k < n) => (show inI (l.getD k 0) = true from by
    have e : l.getD k 0 = l[k]'(by omega) := by rw [List.getD_eq_getElem?_getD, List.getElem?_eq_getElem (by omega)]; rfl
    rw [e]; exact List.all_eq_true.1 hi _ (List.getElem_mem _)))
  rw [← hR]
  have H1 := hid h1
  have HD := hid hd
  rw [← hn] at ml q1 H1 ⊢
  clear h1 hn hR hd hi
  go_enter Tryz.func69, Tryz.ntmps69
  go_wp2_with (fail)
  go_loopw [8] (fun iv wr => ∃ k : Nat, k ≤ n ∧ iv = .int .i64 k ∧ Hid (Below w.heap.size w wr) ∧ Hid (∀ i, i < k → p (l.getD i 0) = false)) (fun iv _ => n - (intOf iv).toNat)
  case atStart => exact ⟨0, by omega, rfl, Below.refl _ _, fun i hi => absurd hi (by omega)⟩
  case round =>
    obtain ⟨k, hk, rfl, hbel, hall⟩ := hrel
    by_cases hlt : k < n
    · rcases H1.out with hc | ⟨b1, o1, rfl, hb1, c1⟩
      · omega
      have hb1' := hb1 (by omega)
      have d1 := (hbel.out.cell (p := ⟨b1, o1 + k, none⟩) hb1').trans (c1 k hlt)
      have hh := hid (HH.out k hlt)
      have HNX := hid (show p (l.getD k 0) = false → ∀ i, i < k + 1 → p (l.getD i 0) = false from fun he i hi => by
        rcases Nat.lt_or_ge i k with h | h
        · exact hall.out i h
        · obtain rfl : i = k := by omega
          exact he)
      have HC := hid (HD.out wr hbel.out (l.getD k 0) (HI.out k hlt))
      clear c1
      generalize l.getD k 0 = x at d1 hh HNX HC
      obtain ⟨b, hb⟩ : ∃ b, b = p x := ⟨_, rfl⟩
      rw [← hb] at hh HNX HC
      clear hb
      cases b with
      | true =>
        have hr := hid (hh.out rfl)
        go_wp2_with (go_at_call 40; refine HC.out.mono ?_; rintro e wu ⟨rfl, hbu⟩; have HBU := hid (hbel.out.trans (hbu.mono hbel.out.size)); clear hbu)
        go_ret
        exact ⟨.inl ⟨hr.out, k, rfl⟩, HBU.out⟩
      | false =>
        have hr := hid (HNX.out rfl)
        go_wp2_with (go_at_call 40; refine HC.out.mono ?_; rintro e wu ⟨rfl, hbu⟩; have HBU := hid (hbel.out.trans (hbu.mono hbel.out.size)); clear hbu)
        go_roundw
        case rel => exact ⟨k + 1, by omega, by go_num, HBU.out, hr.out⟩
        case measure => simp [intOf]; omega
    · obtain rfl : k = n := by omega
      have hr := hid (HN.out hall.out)
      go_wp2_with (fail)
      go_ret
      exact ⟨.inr ⟨hr.out, rfl⟩, hbel.out⟩
set_option maxHeartbeats 1000000 in
theorem contP21 (p : Int → Bool) (v : Value) (l : List Int) (w : World) (h : Sl .i64 w v l) (hi : l.all inI = true) (hd : RuleP p w) :
    Calls Tryz.prog 39 #[v, .func (.func 40) #[] #[]] w fun e w' => e = .returned (.bool (l.any p)) ∧ Below w.heap.size w w' := by
  have HI := hid (idxP21 p v l w h hi hd)
  clear h hi hd
  obtain ⟨b, hb⟩ : ∃ b, b = l.any p := ⟨_, rfl⟩
  rw [← hb] at HI ⊢
  clear hb
  cases b with
  | true =>
    go_enter Tryz.func39, Tryz.ntmps39
    go_wp2_with (go_at_call 69; refine HI.out.mono ?_; rintro e w1 ⟨he, hb1⟩; have HB1 := hid hb1; replace he : ∃ k : Nat, e = .returned (.int .i64 (k : Int)) := (by rcases he with ⟨-, he⟩ | ⟨he, -⟩; exact he; cases he); obtain ⟨k, rfl⟩ := he; have hk : decide ((k : Int) ≥ 0) = true := (by simp); have hk2 : decide (0 ≤ (k : Int)) = true := (by simp); clear hb1)
    go_ret
    exact ⟨ret_bool (by first | rfl | assumption | simp), HB1.out⟩
  | false =>
    go_enter Tryz.func39, Tryz.ntmps39
    go_wp2_with (go_at_call 69; refine HI.out.mono ?_; rintro e w1 ⟨he, hb1⟩; have HB1 := hid hb1; replace he : e = .returned (.int .i64 (-1)) := (by rcases he with ⟨he, -⟩ | ⟨-, he⟩; cases he; exact he); subst he; clear hb1)
    go_ret
    exact ⟨rfl, HB1.out⟩
theorem any_not {s : List Int} : (!s.any fun c => !okP c) = alwP s := by
  unfold alwP
  induction s with
  | nil => rfl
  | cons c s ih => rw [List.any_cons, List.all_cons, ← ih]; cases okP c <;> simp
set_option maxHeartbeats 1000000 in
theorem prAllowed : PrAllowedOk := by
  intro v s w hs hi _
  have HC := hid (contP21 (fun c => !okP c) v s w hs hi (fun wr _ a _ => prProhibited a wr))
  have HE := hid (any_not (s := s))
  generalize (s.any fun c => !okP c) = b at HC HE
  generalize alwP s = q at HE ⊢
  obtain ⟨a1, c1, rfl⟩ := hs.form
  clear hs hi
  go_enter Tryz.func16, Tryz.ntmps16
  go_wp2_with (go_at_call 39; refine HC.out.mono ?_; rintro e w1 ⟨rfl, hb1⟩; have HB1 := hid hb1; clear hb1)
  go_ret
  exact ⟨by rw [← HE.out]; rfl, HB1.out⟩
end Go.Proofs.YtidjjaginindoaaGreat
