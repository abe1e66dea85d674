/- Several texts in one: Idx11, Nrm11d, Ref6d. -/
import Derived.Test.YtimbchkoomjhkaaPk3
import Derived.Test.YtimbchkoomjhkaaPk33
import Derived.Test.YtimbchkoomjhkaaPk35
import Derived.Test.YtimbchkoomjhkaaPk13
/-! Idx11 -/
namespace Go.Proofs.Ytimbchkoomjhkaa
open Go.RowKit

theorem anyI_hit {l : List Int} {p : Int → Bool} {k : Nat} (h : k < l.length) (hp : p (l.getD k 0) = true) : l.any p = true := by
  rw [List.any_eq_true]
  exact ⟨l[k], List.getElem_mem _, by rw [List.getD_eq_getElem?_getD, List.getElem?_eq_getElem h] at hp; exact hp⟩
theorem anyI_none {l : List Int} {p : Int → Bool} (h : ∀ k, k < l.length → p (l.getD k 0) = false) : l.any p = false := by
  rw [List.any_eq_false]
  intro x hx
  obtain ⟨k, hk, rfl⟩ := List.getElem_of_mem hx
  have := h k hk
  rw [List.getD_eq_getElem?_getD, List.getElem?_eq_getElem hk] at this
  simpa using this
def RuleS (p : Int → Bool) (B : Nat) (w : World) : Prop := ∀ wr, Below w.heap.size w wr → ∀ a : Int, inI a = true →
  Calls Try.prog 85 #[.int .i64 a, .pointer (some ⟨B, 0, none⟩)] wr fun e w' => e = .returned (.bool (p a)) ∧ Below wr.heap.size wr w'
def RuleM (p : Int → Bool) (M : Nat) (w : World) : Prop := ∀ wr, Below w.heap.size w wr → ∀ a : Int, inI a = true →
  Calls Try.prog 39 #[.map (some M), .int .i64 a] wr fun e w' => e = .returned (.bool (p a)) ∧ Below wr.heap.size wr w'

set_option maxHeartbeats 1000000 in
theorem idxS11 (p : Int → Bool) (B : Nat) (v : Value) (l : List Int) (w : World) (h : Sl .i64 w v l) (hi : l.all inI = true) (hd : RuleS p B w) :
    Calls Try.prog 65 #[v, .func (.func 85) #[] #[.pointer (some ⟨B, 0, none⟩)]] w fun e w' => ((l.any p = true ∧ ∃ k : Nat, e = .returned (.int .i64 (k : Int))) ∨ (l.any p = false ∧ e = .returned (.int .i64 (-1)))) ∧ Below w.heap.size w w' := by
  have ml := h.len
  obtain ⟨a1, cap1, rfl, q1, -, h1⟩ := h
  obtain ⟨n, hn⟩ : ∃ n, n = l.length := ⟨_, rfl⟩
  obtain ⟨R, hR⟩ : ∃ R, R = l.any p := ⟨_, rfl⟩
  have HH := hid (fun k (hk : k < n) (hp : p (l.getD k 0) = true) => (show R = true from by rw [hR]; exact anyI_hit (by omega) hp))
  have HN := hid (fun (hq : ∀ i, i < n → p (l.getD i 0) = false) => (show R = false from by rw [hR]; exact anyI_none (by rw [← hn]; exact hq)))
  have HI := hid (fun k (hk : k < n) => (show inI (l.getD k 0) = true from by
    have e : l.getD k 0 = l[k]'(by omega) := by rw [List.getD_eq_getElem?_getD, List.getElem?_eq_getElem (by omega)]; rfl
    rw [e]; exact List.all_eq_true.1 hi _ (List.getElem_mem _)))
  rw [← hR]
  have H1 := hid h1
  have HD := hid hd
  rw [← hn] at ml q1 H1 ⊢
  clear h1 hn hR hd hi
  go_enter Try.func65, Try.ntmps65
  go_wp2_with (fail)
  go_loopw [8] (fun iv wr => ∃ k : Nat, k ≤ n ∧ iv = .int .i64 k ∧ Hid (Below w.heap.size w wr) ∧ Hid (∀ i, i < k → p (l.getD i 0) = false)) (fun iv _ => n - (intOf iv).toNat)
  case atStart => exact ⟨0, by omega, rfl, Below.refl _ _, fun i hi => absurd hi (by omega)⟩
  case round =>
    obtain ⟨k, hk, rfl, hbel, hall⟩ := hrel
    by_cases hlt : k < n
    · rcases H1.out with hc | ⟨b1, o1, rfl, hb1, c1⟩
      · omega
      have hb1' := hb1 (by omega)
      have d1 := (hbel.out.cell (p := ⟨b1, o1 + k, none⟩) hb1').trans (c1 k hlt)
      have hh := hid (HH.out k hlt)
      have HNX := hid (show p (l.getD k 0) = false → ∀ i, i < k + 1 → p (l.getD i 0) = false from fun he i hi => by
        rcases Nat.lt_or_ge i k with h | h
        · exact hall.out i h
        · obtain rfl : i = k := by omega
          exact he)
      have HC := hid (HD.out wr hbel.out (l.getD k 0) (HI.out k hlt))
      clear c1
      generalize l.getD k 0 = x at d1 hh HNX HC
      obtain ⟨b, hb⟩ : ∃ b, b = p x := ⟨_, rfl⟩
      rw [← hb] at hh HNX HC
      clear hb
      cases b with
      | true =>
        have hr := hid (hh.out rfl)
        go_wp2_with (go_at_call 85; refine HC.out.mono ?_; rintro e wu ⟨rfl, hbu⟩; have HBU := hid (hbel.out.trans (hbu.mono hbel.out.size)); clear hbu)
        go_ret
        exact ⟨.inl ⟨hr.out, k, rfl⟩, HBU.out⟩
      | false =>
        have hr := hid (HNX.out rfl)
        go_wp2_with (go_at_call 85; refine HC.out.mono ?_; rintro e wu ⟨rfl, hbu⟩; have HBU := hid (hbel.out.trans (hbu.mono hbel.out.size)); clear hbu)
        go_roundw
        case rel => exact ⟨k + 1, by omega, by go_num, HBU.out, hr.out⟩
        case measure => simp [intOf]; omega
    · obtain rfl : k = n := by omega
      have hr := hid (HN.out hall.out)
      go_wp2_with (fail)
      go_ret
      exact ⟨.inr ⟨hr.out, rfl⟩, hbel.out⟩
set_option maxHeartbeats 1000000 in
theorem contS11 (p : Int → Bool) (B : Nat) (v : Value) (l : List Int) (w : World) (h : Sl .i64 w v l) (hi : l.all inI = true) (hd : RuleS p B w) :
    Calls Try.prog 37 #[v, .func (.func 85) #[] #[.pointer (some ⟨B, 0, none⟩)]] w fun e w' => e = .returned (.bool (l.any p)) ∧ Below w.heap.size w w' := by
  have HI := hid (idxS11 p B v l w h hi hd)
  clear h hi hd
  obtain ⟨b, hb⟩ : ∃ b, b = l.any p := ⟨_, rfl⟩
  rw [← hb] at HI ⊢
  clear hb
  cases b with
  | true =>
    go_enter Try.func37, Try.ntmps37
    go_wp2_with (go_at_call 65; refine HI.out.mono ?_; rintro e w1 ⟨he, hb1⟩; have HB1 := hid hb1; replace he : ∃ k : Nat, e = .returned (.int .i64 (k : Int)) := (by rcases he with ⟨-, he⟩ | ⟨he, -⟩; exact he; cases he); obtain ⟨k, rfl⟩ := he; have hk : decide ((k : Int) ≥ 0) = true := (by simp); have hk2 : decide (0 ≤ (k : Int)) = true := (by simp); clear hb1)
    go_ret
    exact ⟨ret_bool (by first | rfl | assumption | simp), HB1.out⟩
  | false =>
    go_enter Try.func37, Try.ntmps37
    go_wp2_with (go_at_call 65; refine HI.out.mono ?_; rintro e w1 ⟨he, hb1⟩; have HB1 := hid hb1; replace he : e = .returned (.int .i64 (-1)) := (by rcases he with ⟨he, -⟩ | ⟨-, he⟩; cases he; exact he); subst he; clear hb1)
    go_ret
    exact ⟨rfl, HB1.out⟩
set_option maxHeartbeats 1000000 in
theorem idxM11 (p : Int → Bool) (M : Nat) (v : Value) (l : List Int) (w : World) (h : Sl .i64 w v l) (hi : l.all inI = true) (hd : RuleM p M w) :
    Calls Try.prog 65 #[v, .func (.func 39) #[.map (some M)] #[]] w fun e w' => ((l.any p = true ∧ ∃ k : Nat, e = .returned (.int .i64 (k : Int))) ∨ (l.any p = false ∧ e = .returned (.int .i64 (-1)))) ∧ Below w.heap.size w w' := by
  have ml := h.len
  obtain ⟨a1, cap1, rfl, q1, -, h1⟩ := h
  obtain ⟨n, hn⟩ : ∃ n, n = l.length := ⟨_, rfl⟩
  obtain ⟨R, hR⟩ : ∃ R, R = l.any p := ⟨_, rfl⟩
  have HH := hid (fun k (hk : k < n) (hp : p (l.getD k 0) = true) => (show R = true from by rw [hR]; exact anyI_hit (by omega) hp))
  have HN := hid (fun (hq : ∀ i, i < n → p (l.getD i 0) = false) => (show R = false from by rw [hR]; exact anyI_none (by rw [← hn]; exact hq)))
  have HI := hid (fun k (hk : k < n) => (show inI (l.getD k 0) = true from by
    have e : l.getD k 0 = l[k]'(by omega) := by rw [List.getD_eq_getElem?_getD, List.getElem?_eq_getElem (by omega)]; rfl
    rw [e]; exact List.all_eq_true.1 hi _ (List.getElem_mem _)))
  rw [← hR]
  have H1 := hid h1
  have HD := hid hd
  rw [← hn] at ml q1 H1 ⊢
  clear h1 hn hR hd hi
  go_enter Try.func65, Try.ntmps65
  go_wp2_with (fail)
  go_loopw [8] (fun iv wr => ∃ k : Nat, k ≤ n ∧ iv = .int .i64 k ∧ Hid (Below w.heap.size w wr) ∧ Hid (∀ i, i < k → p (l.getD i 0) = false)) (fun iv _ => n - (intOf iv).toNat)
  case atStart => exact ⟨0, by omega, rfl, Below.refl _ _, fun i hi => absurd hi (by omega)⟩
  case round =>
    obtain ⟨k, hk, rfl, hbel, hall⟩ := hrel
    by_cases hlt : k < n
    · rcases H1.out with hc | ⟨b1, o1, rfl, hb1, c1⟩
      · omega
      have hb1' := hb1 (by omega)
      have d1 := (hbel.out.cell (p := ⟨b1, o1 + k, none⟩) hb1').trans (c1 k hlt)
      have hh := hid (HH.out k hlt)
      have HNX := hid (show p (l.getD k 0) = false → ∀ i, i < k + 1 → p (l.getD i 0) = false from fun he i hi => by
        rcases Nat.lt_or_ge i k with h | h
        · exact hall.out i h
        · obtain rfl : i = k := by omega
          exact he)
      have HC := hid (HD.out wr hbel.out (l.getD k 0) (HI.out k hlt))
      clear c1
      generalize l.getD k 0 = x at d1 hh HNX HC
      obtain ⟨b, hb⟩ : ∃ b, b = p x := ⟨_, rfl⟩
      rw [← hb] at hh HNX HC
      clear hb
      cases b with
      | true =>
        have hr := hid (hh.out rfl)
        go_wp2_with (go_at_call 39; refine HC.out.mono ?_; rintro e wu ⟨rfl, hbu⟩; have HBU := hid (hbel.out.trans (hbu.mono hbel.out.size)); clear hbu)
        go_ret
        exact ⟨.inl ⟨hr.out, k, rfl⟩, HBU.out⟩
      | false =>
        have hr := hid (HNX.out rfl)
        go_wp2_with (go_at_call 39; refine HC.out.mono ?_; rintro e wu ⟨rfl, hbu⟩; have HBU := hid (hbel.out.trans (hbu.mono hbel.out.size)); clear hbu)
        go_roundw
        case rel => exact ⟨k + 1, by omega, by go_num, HBU.out, hr.out⟩
        case measure => simp [intOf]; omega
    · obtain rfl : k = n := by omega
      have hr := hid (HN.out hall.out)
      go_wp2_with (fail)
      go_ret
      exact ⟨.inr ⟨hr.out, rfl⟩, hbel.out⟩
set_option maxHeartbeats 1000000 in
theorem contM11 (p : Int → Bool) (M : Nat) (v : Value) (l : List Int) (w : World) (h : Sl .i64 w v l) (hi : l.all inI = true) (hd : RuleM p M w) :
    Calls Try.prog 37 #[v, .func (.func 39) #[.map (some M)] #[]] w fun e w' => e = .returned (.bool (l.any p)) ∧ Below w.heap.size w w' := by
  have HI := hid (idxM11 p M v l w h hi hd)
  clear h hi hd
  obtain ⟨b, hb⟩ : ∃ b, b = l.any p := ⟨_, rfl⟩
  rw [← hb] at HI ⊢
  clear hb
  cases b with
  | true =>
    go_enter Try.func37, Try.ntmps37
    go_wp2_with (go_at_call 65; refine HI.out.mono ?_; rintro e w1 ⟨he, hb1⟩; have HB1 := hid hb1; replace he : ∃ k : Nat, e = .returned (.int .i64 (k : Int)) := (by rcases he with ⟨-, he⟩ | ⟨he, -⟩; exact he; cases he); obtain ⟨k, rfl⟩ := he; have hk : decide ((k : Int) ≥ 0) = true := (by simp); have hk2 : decide (0 ≤ (k : Int)) = true := (by simp); clear hb1)
    go_ret
    exact ⟨ret_bool (by first | rfl | assumption | simp), HB1.out⟩
  | false =>
    go_enter Try.func37, Try.ntmps37
    go_wp2_with (go_at_call 65; refine HI.out.mono ?_; rintro e w1 ⟨he, hb1⟩; have HB1 := hid hb1; replace he : e = .returned (.int .i64 (-1)) := (by rcases he with ⟨he, -⟩ | ⟨-, he⟩; cases he; exact he); subst he; clear hb1)
    go_ret
    exact ⟨rfl, HB1.out⟩
end Go.Proofs.Ytimbchkoomjhkaa

/-! Nrm11d -/
namespace Go.Proofs.Ytimbchkoomjhkaa
open Go.RowKit Go.Shelf

theorem secondRule (c a : Int) (B : Nat) (w : World) (hB : Box 3 [.int .i64 c] B w) :
    Calls Try.prog 85 #[.int .i64 a, .pointer (some ⟨B, 0, none⟩)] w fun e w' => e = .returned (.bool (pairB c a)) ∧ Below w.heap.size w w' := by
  unfold pairB
  have HP := hid (fun w => ucdPair a c w)
  have x0 := hB.cell 0
  simp only [List.getElem?_cons_zero] at x0
  generalize pairS a c = r at HP ⊢
  obtain ⟨d, b⟩ := r
  simp only at HP ⊢
  clear hB
  go_enter Try.func85, Try.ntmps85
  go_wp2_with (go_at_call 23; refine (HP.out _).mono ?_; rintro e w1 ⟨rfl, hb1⟩; have HB1 := hid hb1; clear hb1)
  go_ret
  exact ⟨rfl, HB1.out⟩
set_option maxHeartbeats 1000000 in
theorem second11 (c : Int) (M base : Nat) (w : World) (hc : inI c = true) (hm : RowsM (frL tabCanon) base M w) :
    Calls Try.prog 67 #[.map (some M), .int .i64 c] w fun e w' => e = .returned (.bool (secB c)) ∧ Below w.heap.size w w' := by
  unfold secB
  have HA := hid (show Below w.heap.size w (w.alloc (.cells #[.int .i64 c] 3)) from (Below.refl _ _).alloc (Nat.le_refl _) _)
  have HBX := hid (show Box 3 [.int .i64 c] w.heap.size (w.alloc (.cells #[.int .i64 c] 3)) from Box.made w 3 [.int .i64 c])
  obtain ⟨v, hlook, ho, -⟩ := rowsM_look (P := Try.prog) (T := 51) (k := 3) (e := 22) hm Try.underlying51 Try.underlying3 (fun w' => by kernel_rfl) hc
  have HL := hid (hlook _ (HA.out.block M hm.lt))
  have HO := hid (ho.sl.below HA.out)
  have HIN := hid (frL_in (l := tabCanon) (fun r hr => by
    have := List.all_eq_true.1 canon_in.1 r hr
    simp only [Bool.and_eq_true] at this
    exact this.1) c)
  have HR := hid (fun (p : Int → Bool) B v l w => contS11 p B v l w)
  generalize frL tabCanon c = L at HO HIN ⊢
  clear hlook ho hm hc
  go_enter Try.func67, Try.ntmps67
  go_wp2_with (first
    | (at_lookup; refine wpList_lookRow rfl _ _ 51 rfl M c rfl rfl HL.out ?_)
    | (go_at_call 37; refine (HR.out (pairB c) w.heap.size v L _ HO.out HIN.out (fun wr hwr a _ => secondRule c a w.heap.size wr (HBX.out.below hwr HBX.out.lt))).mono ?_; rintro e w1 ⟨rfl, hb1⟩; have HB1 := hid (HA.out.trans (hb1.mono HA.out.size)); clear hb1))
  go_ret
  exact ⟨rfl, HB1.out⟩
theorem later11 (c : Int) (w : World) : Calls Try.prog 66 #[.int .i64 c] w fun e w' => e = .returned (.bool (laterB c)) ∧ Below w.heap.size w w' := by
  have key : Calls Try.prog 66 #[.int .i64 c] w fun e w' => e = .returned (.bool (laterB c)) ∧ w' = w := by
    by_cases h1 : 4449 ≤ c
    · by_cases h2 : c ≤ 4469
      · have hr := hid (show laterB c = true from by unfold laterB; simp [h1, h2])
        go_enter Try.func66, Try.ntmps66
        go_wp2_with (fail)
        go_ret
        exact ⟨by rw [hr.out]; rfl, rfl⟩
      · by_cases h3 : 4520 ≤ c
        · have hr := hid (show laterB c = decide (c ≤ 4546) from by unfold laterB; simp [h2, h3])
          by_cases h4 : c ≤ 4546
          · go_enter Try.func66, Try.ntmps66
            go_wp2_with (fail)
            go_ret
            exact ⟨by rw [hr.out]; simp [h4], rfl⟩
          · go_enter Try.func66, Try.ntmps66
            go_wp2_with (fail)
            go_ret
            exact ⟨by rw [hr.out]; simp [h4], rfl⟩
        · have hr := hid (show laterB c = false from by unfold laterB; simp [h2, h3])
          go_enter Try.func66, Try.ntmps66
          go_wp2_with (fail)
          go_ret
          exact ⟨by rw [hr.out]; rfl, rfl⟩
    · have h3 : ¬ 4520 ≤ c := by omega
      have hr := hid (show laterB c = false from by unfold laterB; simp [h1, h3])
      go_enter Try.func66, Try.ntmps66
      go_wp2_with (fail)
      go_ret
      exact ⟨by rw [hr.out]; rfl, rfl⟩
  refine key.mono ?_
  rintro e w' ⟨he, rfl⟩
  exact ⟨he, Below.refl _ _⟩
set_option maxHeartbeats 1000000 in
theorem move11 (c : Int) (M base : Nat) (w : World) (hc : inI c = true) (hm : RowsM (frL tabCanon) base M w) :
    Calls Try.prog 39 #[.map (some M), .int .i64 c] w fun e w' => e = .returned (.bool (moveB c)) ∧ Below w.heap.size w w' := by
  unfold moveB
  have HC := hid (ucdClass c w)
  have HL := hid (fun w => later11 c w)
  have HS := hid (fun w (h : RowsM (frL tabCanon) base M w) => second11 c M base w hc h)
  have HM := hid hm
  generalize classS c = k at HC ⊢
  generalize laterB c = l at HL ⊢
  generalize secB c = s at HS ⊢
  clear hc hm
  by_cases hk : k = 0
  · subst hk
    cases l with
    | true =>
      go_enter Try.func39, Try.ntmps39
      go_wp2_with (first
        | (go_at_call 21; refine HC.out.mono ?_; rintro e w1 ⟨rfl, hb1⟩; have HB1 := hid hb1; clear hb1)
        | (go_at_call 66; refine (HL.out _).mono ?_; rintro e w2 ⟨rfl, hb2⟩; have HB2 := hid (HB1.out.trans (hb2.mono HB1.out.size)); clear hb2))
      go_ret
      exact ⟨rfl, HB2.out⟩
    | false =>
      go_enter Try.func39, Try.ntmps39
      go_wp2_with (first
        | (go_at_call 21; refine HC.out.mono ?_; rintro e w1 ⟨rfl, hb1⟩; have HB1 := hid hb1; clear hb1)
        | (go_at_call 66; refine (HL.out _).mono ?_; rintro e w2 ⟨rfl, hb2⟩; have HB2 := hid (HB1.out.trans (hb2.mono HB1.out.size)); clear hb2)
        | (go_at_call 67; refine (HS.out _ (HM.out.below HB2.out)).mono ?_; rintro e w3 ⟨rfl, hb3⟩; have HB3 := hid (HB2.out.trans (hb3.mono HB2.out.size)); clear hb3))
      go_ret
      exact ⟨ret_bool (by cases s <;> rfl), HB3.out⟩
  · have e1 : (k != 0) = true := by simpa using hk
    go_enter Try.func39, Try.ntmps39
    go_wp2_with (go_at_call 21; refine HC.out.mono ?_; rintro e w1 ⟨rfl, hb1⟩; have HB1 := hid hb1; clear hb1)
    go_ret
    exact ⟨ret_bool (by rw [e1]; rfl), HB1.out⟩
set_option maxHeartbeats 1000000 in
theorem normQuick : NQuickOk := fun k v s w h hi hl => by
  rw [← quick_eq]
  have H1 := hid (normDecomposed k v s w h hi hl)
  have HS := hid h
  have HI := hid hi
  have HR := hid (fun (p : Int → Bool) M v l w => contM11 p M v l w)
  have HN := hid (fun v w (h : Sg w v tabCanon) => newPairs11 v tabCanon w h (fun k hk => (by
    have := List.all_eq_true.1 canon_in.1 (tabCanon.getD k noRg) (by rw [List.getD_eq_getElem?_getD, List.getElem?_eq_getElem hk]; exact List.getElem_mem _)
    simpa using this)) canon_in.2)
  generalize eqL (allS k s) s = d at H1 ⊢
  clear h hi hl
  cases d with
  | false =>
    go_enter Try.func17, Try.ntmps17
    go_wp2_with (go_at_call 36; refine H1.out.mono ?_; rintro e w1 ⟨rfl, hb1⟩; have HB1 := hid hb1; clear hb1)
    go_ret
    exact ⟨rfl, HB1.out⟩
  | true =>
    go_enter Try.func17, Try.ntmps17
    go_wp2_with (first
      | (go_at_call 36; refine H1.out.mono ?_; rintro e w1 ⟨rfl, hb1⟩; have HB1 := hid hb1; clear hb1)
      | (go_at_call 25; refine (apiCanon _).mono ?_; rintro e w2 ⟨v2, rfl, ho2, hb2⟩; have HG2 := hid ho2.sg; have HB2 := hid (HB1.out.trans (hb2.mono HB1.out.size)); clear ho2 hb2)
      | (go_at_call 38; refine (HN.out _ _ HG2.out).mono ?_; rintro e w3 ⟨M, rfl, hM, hm3, hb3⟩; have HM3 := hid hm3; have HB3 := hid (HB2.out.trans (hb3.mono HB2.out.size)); clear hM hm3 hb3)
      | (go_at_call 37; refine (HR.out moveB M v s _ (HS.out.below HB3.out) HI.out (fun wr hwr a ha => move11 a M w2.heap.size wr ha (HM3.out.below hwr))).mono ?_; rintro e w4 ⟨rfl, hb4⟩; have HB4 := hid (HB3.out.trans (hb4.mono HB3.out.size)); clear hb4))
    go_ret
    exact ⟨ret_bool (by simp), HB4.out⟩
end Go.Proofs.Ytimbchkoomjhkaa

/-! Ref6d -/
namespace Go.Proofs.Ytimbchkoomjhkaa
open Go.RowKit

def refP (a b : Int) (r : Rg) : Bool := !(r.v == 0) && (!(r.t != a) && (!(r.v != b) && (!(classS a != 0) && (!(classS r.f != 0) && !exclL.any (· == r.f)))))
theorem idx_any (c : Int) : ∀ (l : List Int) (o : Int), 0 ≤ o → decide (0 ≤ idxL c l o) = l.any (· == c)
  | [], o, _ => by simp [idxL]
  | x :: l, o, h => by
    rw [idxL, List.any_cons]
    cases hx : (x == c) with
    | true => simp [h]
    | false => simpa using idx_any c l (o + 1) (by omega)
theorem fndS_filter {p q : Rg → Bool} : ∀ l : List Rg, fndS p (l.filter q) = fndS (fun r => q r && p r) l
  | [] => rfl
  | r :: l => by
    rw [List.filter_cons, fndS]
    cases hq : q r with
    | true =>
      simp only [if_true, Bool.true_and]
      rw [fndS, fndS_filter l]
    | false =>
      simp only [Bool.false_eq_true, if_false, Bool.false_and]
      exact fndS_filter l
theorem fndS_ext {p q : Rg → Bool} (h : ∀ r, p r = q r) : ∀ l : List Rg, fndS p l = fndS q l
  | [] => rfl
  | r :: l => by rw [fndS, fndS, h r, fndS_ext h l]
theorem pair_same (a b : Int) : pairS a b = ((fndS (refP a b) tabCanon).1.f, (fndS (refP a b) tabCanon).2) := by
  have e : fndS (fun r => r.t == a && r.v == b) tabPair = fndS (refP a b) tabCanon := by
    unfold tabPair
    rw [fndS_filter]
    refine fndS_ext (fun r => ?_) _
    unfold refP delS inL
    rw [idx_any _ _ _ (Int.le_refl 0), class_look, class_look]
    cases h1 : (r.t == a) with
    | false =>
      have : (r.t != a) = true := by simp only [bne, h1]; rfl
      rw [this]
      simp
    | true =>
      have h2 := eq_of_beq h1
      have : (r.t != a) = false := by simp only [bne, h1]; rfl
      rw [this, h2]
      cases (r.v == 0) <;> cases exclL.any (· == r.f) <;> cases hb : (r.v == b) <;> simp [bne, hb, Bool.and_comm]
  unfold pairS
  rw [e]
/-- whether one of the first so many is x -/
def outB (x : Int) (j : Nat) : Bool := (exclL.take j).any (· == x)
theorem outB_next {x : Int} {j : Nat} (h : j < 6) : outB x (j + 1) = (outB x j || (exclL.getD j 0 == x)) := by
  unfold outB
  rw [List.take_succ_eq_append_getElem (show j < exclL.length from h), List.any_append, List.any_cons, List.any_nil, Bool.or_false]
  congr 1
  rw [List.getD_eq_getElem?_getD, List.getElem?_eq_getElem (show j < exclL.length from h)]
  rfl

set_option maxHeartbeats 8000000 in
set_option maxRecDepth 8000 in
theorem refTPair (B : Nat) (a b : Int) (w : World) (h : TabsAt B w) : Calls Try.prog 43 #[.pointer (some ⟨B, 0, none⟩), .int .i64 a, .int .i64 b] w fun e w' => e = .returned (.tuple #[.int .i64 (pairS a b).1, .bool (pairS a b).2]) ∧ Below w.heap.size w w' := by
  rw [pair_same]
  have HT := hid h
  obtain ⟨v1, v2, v3, v4, v5, hx, h1, h2, h3, h4, h5⟩ := h
  have HX := hid hx
  clear h2 h3 h5 hx
  have ml := h1.len
  obtain ⟨l, hl⟩ : ∃ l, l = tabCanon := ⟨_, rfl⟩
  obtain ⟨R, hRR⟩ : ∃ R, R = fndS (refP a b) l := ⟨_, rfl⟩
  rw [← hl] at h1 ml ⊢
  rw [← hRR]
  clear hl
  obtain ⟨a1, cap1, rfl, q1, -, h1⟩ := h1
  obtain ⟨n, hn⟩ : ∃ n, n = l.length := ⟨_, rfl⟩
  have hH : ∀ k, k < n → (∀ i, i < k → refP a b (l.getD i noRg) = false) → refP a b (l.getD k noRg) = true → R = (l.getD k noRg, true) := fun k hk ha hh => by rw [hRR, fndS_hit (p := refP a b) (by omega) ha hh]
  have hN : (∀ i, i < n → refP a b (l.getD i noRg) = false) → R = (noRg, false) := fun ha => by rw [hRR, fndS_none (p := refP a b) (by rw [← hn]; exact ha)]
  obtain ⟨a4, cap4, hv4, q4, -, h4⟩ := h4
  rw [show exclL.length = 6 from rfl] at hv4
  subst hv4
  have HH := hid hH
  have HN := hid hN
  have H1 := hid h1
  have H4 := hid h4
  rw [← hn] at ml q1 H1 HX
  clear hH hN h1 hn hRR h4
  obtain ⟨ca, hca⟩ : ∃ ca, ca = classS a := ⟨_, rfl⟩
  have HCA := hid hca
  have x0 := HX.out.cell 0
  simp only [List.getElem?_cons_zero] at x0
  go_enter Try.func43, Try.ntmps43
  go_wp2_with (fail)
  go_loopw [8] (fun iv wr => ∃ k : Nat, k ≤ n ∧ iv = .int .i64 k ∧ Hid (Below w.heap.size w wr) ∧ Hid (∀ i, i < k → refP a b (l.getD i noRg) = false)) (fun iv _ => n - (intOf iv).toNat)
  case atStart => exact ⟨0, by omega, rfl, Below.refl _ _, fun i hi => absurd hi (by omega)⟩
  case round =>
    obtain ⟨k, hk, rfl, hbel, hall⟩ := hrel
    have x0 := (HX.out.below hbel.out HX.out.lt).cell 0
    simp only [List.getElem?_cons_zero] at x0
    by_cases hlt : k < n
    · rcases H1.out with hc | ⟨b1, o1, rfl, hb1, c1⟩
      · omega
      have hb1' := hb1 (by omega)
      obtain ⟨d1, d2, d3⟩ := c1 k hlt
      have d1 := (hbel.out.cell (p := ⟨b1, o1 + k * 3, none⟩) hb1').trans d1
      have d2 := (hbel.out.cell (p := ⟨b1, o1 + k * 3 + 1, none⟩) hb1').trans d2
      have d3 := (hbel.out.cell (p := ⟨b1, o1 + k * 3 + 2, none⟩) hb1').trans d3
      have hh := hid (HH.out k hlt hall.out)
      have HNX := hid (show refP a b (l.getD k noRg) = false → ∀ i, i < k + 1 → refP a b (l.getD i noRg) = false from fun he i hi => by
        rcases Nat.lt_or_ge i k with h | h
        · exact hall.out i h
        · obtain rfl : i = k := by omega
          exact he)
      clear c1
      generalize l.getD k noRg = r at d1 d2 d3 hh HNX
      obtain ⟨rf, rt, rv⟩ := r
      simp only at d1 d2 d3 hh HNX
      obtain ⟨cf, hcf⟩ : ∃ cf, cf = classS rf := ⟨_, rfl⟩
      have HCF := hid hcf
      obtain ⟨p1, hp1⟩ : ∃ p, p = (rv == 0) := ⟨_, rfl⟩
      obtain ⟨p2, hp2⟩ : ∃ p, p = (rt != a) := ⟨_, rfl⟩
      obtain ⟨p3, hp3⟩ : ∃ p, p = (rv != b) := ⟨_, rfl⟩
      obtain ⟨p4, hp4⟩ : ∃ p, p = (ca != 0) := ⟨_, rfl⟩
      obtain ⟨p5, hp5⟩ : ∃ p, p = (cf != 0) := ⟨_, rfl⟩
      have hrp : refP a b ⟨rf, rt, rv⟩ = (!p1 && (!p2 && (!p3 && (!p4 && (!p5 && !exclL.any (· == rf)))))) := by rw [hp1, hp2, hp3, hp4, hp5, hca, hcf]; rfl
      rw [hrp] at hh HNX
      clear hrp hcf
      replace hp1 := hp1.symm
      replace hp2 := hp2.symm
      replace hp3 := hp3.symm
      replace hp4 := hp4.symm
      replace hp5 := hp5.symm
      have HB2 := hid (hbel.out.alloc hbel.out.size (.cells #[.int .i64 rf, .int .i64 rt, .int .i64 rv] 55))
      have HTA := hid (HT.out.below HB2.out)
      clear hca
      cases p1 with
      | true =>
        have hr := hid (HNX.out rfl)
        clear HNX hh
        go_wp2_with (fail)
        go_roundw
        case rel => exact ⟨k + 1, by omega, by go_num, HB2.out, hr.out⟩
        case measure => simp [intOf]; omega
      | false =>
        cases p2 with
        | true =>
          have hr := hid (HNX.out rfl)
          clear HNX hh
          go_wp2_with (fail)
          go_roundw
          case rel => exact ⟨k + 1, by omega, by go_num, HB2.out, hr.out⟩
          case measure => simp [intOf]; omega
        | false =>
          cases p3 with
          | true =>
            have hr := hid (HNX.out rfl)
            clear HNX hh
            go_wp2_with (fail)
            go_roundw
            case rel => exact ⟨k + 1, by omega, by go_num, HB2.out, hr.out⟩
            case measure => simp [intOf]; omega
          | false =>
            cases p4 with
            | true =>
              have hr := hid (HNX.out rfl)
              clear HNX hh
              go_wp2_with (first
                | (go_at_call 41; with_reducible refine (refTClass B a _ HTA.out).mono ?_; rw [← HCA.out]; rintro e w1 ⟨rfl, rfl⟩))
              go_roundw
              case rel => exact ⟨k + 1, by omega, by go_num, HB2.out, hr.out⟩
              case measure => simp [intOf]; omega
            | false =>
              cases p5 with
              | true =>
                have hr := hid (HNX.out rfl)
                clear HNX hh
                go_wp2_with (first
                  | (go_at_call 41; with_reducible refine (refTClass B a _ HTA.out).mono ?_; rw [← HCA.out]; rintro e w1 ⟨rfl, rfl⟩)
                  | (go_at_call 41; with_reducible refine (refTClass B rf _ HTA.out).mono ?_; rw [← HCF.out]; rintro e w1 ⟨rfl, rfl⟩))
                go_roundw
                case rel => exact ⟨k + 1, by omega, by go_num, HB2.out, hr.out⟩
                case measure => simp [intOf]; omega
              | false =>
                have y0 := (HX.out.below HB2.out HX.out.lt).cell 3
                simp only [List.getElem?_cons_zero, List.getElem?_cons_succ] at y0
                have z0 := (Box.made wr 55 [.int .i64 rf, .int .i64 rt, .int .i64 rv]).cell 0
                simp only [List.getElem?_cons_zero] at z0
                go_wp2_with (first
                  | (go_at_call 41; with_reducible refine (refTClass B a _ HTA.out).mono ?_; rw [← HCA.out]; rintro e w1 ⟨rfl, rfl⟩)
                  | (go_at_call 41; with_reducible refine (refTClass B rf _ HTA.out).mono ?_; rw [← HCF.out]; rintro e w1 ⟨rfl, rfl⟩))
                generalize wr.alloc (.cells #[.int .i64 rf, .int .i64 rt, .int .i64 rv] 55) = W at HB2 HTA y0 z0 ⊢
                generalize wr.heap.size = X at z0 ⊢
                go_loopw [10, 11] (fun bv iv wx => ∃ j q : Nat, j ≤ 6 ∧ iv = .int .i64 j ∧ wx = W.drewN q ∧ Hid (bv = .bool (outB rf j))) (fun _ iv _ => 6 - (intOf iv).toNat)
                case atStart => exact ⟨0, 0, by omega, rfl, rfl, rfl⟩
                case round =>
                  obtain ⟨j, q, hj, rfl, rfl, hbv⟩ := hrel
                  by_cases hj6 : j < 6
                  · rcases H4.out with hc4 | ⟨b4, o4, rfl, hb4, c4⟩
                    · have : exclL.length = 6 := rfl
                      omega
                    have e4 := (HB2.out.cell (p := ⟨b4, o4 + j, none⟩) (hb4 (by decide))).trans (c4 j hj6)
                    have hnx := hid (outB_next (x := rf) hj6)
                    clear c4
                    generalize exclL.getD j 0 = y at e4 hnx
                    obtain ⟨ob, hob⟩ : ∃ ob, ob = outB rf j := ⟨_, rfl⟩
                    rw [← hob] at hbv hnx
                    have hv := hbv.out
                    subst hv
                    clear hbv hob
                    cases ob with
                    | true =>
                      have hn2 := hid (show Value.bool true = .bool (outB rf (j + 1)) by rw [hnx.out]; rfl)
                      go_wp2_with (fail)
                      go_quiet (fail)
                      go_wp2_with (fail)
                      go_roundw
                      case rel => exact ⟨j + 1, q + nq, by omega, by go_num, by first | rfl | exact World.drewN_drewN _ _ _, hn2.out⟩
                      case measure => simp [intOf]; omega
                    | false =>
                      obtain ⟨e, he⟩ : ∃ e, e = (y == rf) := ⟨_, rfl⟩
                      have hn2 := hid (show Value.bool e = .bool (outB rf (j + 1)) by rw [hnx.out, he]; rfl)
                      replace he := he.symm
                      go_wp2_with (fail)
                      go_quiet (fail)
                      go_wp2_with (fail)
                      go_roundw
                      case rel => exact ⟨j + 1, q + nq, by omega, by go_num, by first | rfl | exact World.drewN_drewN _ _ _, hn2.out⟩
                      case measure => simp [intOf]; omega
                  · obtain rfl : j = 6 := by omega
                    have ho : outB rf 6 = exclL.any (· == rf) := rfl
                    have hv := hbv.out
                    rw [ho] at hv
                    rw [hv]
                    obtain ⟨ob, hob⟩ : ∃ ob, ob = exclL.any (· == rf) := ⟨_, rfl⟩
                    rw [← hob] at hh HNX ⊢
                    have HB5 := hid (below_drewN' HB2.out q)
                    clear hv ho hob hbv
                    cases ob with
                    | true =>
                      have hr := hid (HNX.out rfl)
                      clear HNX hh
                      go_wp2_with (fail)
                      go_roundw
                      case rel => exact ⟨k + 1, by omega, by go_num, HB5.out, hr.out⟩
                      case measure => simp [intOf]; omega
                    | false =>
                      have hr := hid (hh.out rfl)
                      clear HNX hh
                      go_wp2_with (fail)
                      go_ret2
                      exact ⟨by rw [hr.out]; rfl, HB5.out⟩
    · obtain rfl : k = n := by omega
      have hr := hid (HN.out hall.out)
      go_wp2_with (fail)
      go_ret2
      exact ⟨by rw [hr.out]; rfl, hbel.out⟩
end Go.Proofs.Ytimbchkoomjhkaa
