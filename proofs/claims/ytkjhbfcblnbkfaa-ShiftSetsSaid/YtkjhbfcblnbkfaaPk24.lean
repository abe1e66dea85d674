/- Several texts in one: Cs16d. -/
import Derived.Test.YtkjhbfcblnbkfaaPk12
import Derived.Test.YtkjhbfcblnbkfaaPk11
/-! Cs16d -/
namespace Go.Proofs.Ytkjhbfcblnbkfaa
open Go.RowKit

/-- where the first one of numbers stands; -1: there is none -/
def ixI (p : Int → Bool) : List Int → Int
  | [] => -1
  | r :: l => if p r then 0 else if ixI p l < 0 then -1 else ixI p l + 1
theorem ixI_drop {p : Int → Bool} : ∀ {l : List Int} {k : Nat}, k ≤ l.length → (∀ i, i < k → p (l.getD i 0) = false) → ixI p l = if ixI p (l.drop k) < 0 then -1 else ixI p (l.drop k) + k
  | [], 0, _, _ => by simp [ixI]
  | r :: l, 0, _, _ => by
    simp only [List.drop_zero]
    unfold ixI
    by_cases h : p r = true
    · rw [if_pos h]; simp
    · rw [if_neg h]
      by_cases h2 : ixI p l < 0
      · rw [if_pos h2]; simp
      · rw [if_neg h2, if_neg (by omega)]; omega
  | [], k + 1, h, _ => by simp at h
  | r :: l, k + 1, h, ha => by
    have h0 := ha 0 (by omega)
    simp only [List.getD_cons_zero] at h0
    have ih := ixI_drop (p := p) (l := l) (k := k) (by simpa using h) fun i hi => by simpa using ha (i + 1) (by omega)
    rw [ixI, h0, List.drop_succ_cons, ih]
    simp only [Bool.false_eq_true, if_false]
    by_cases h2 : ixI p (l.drop k) < 0
    · rw [if_pos h2]; simp; omega
    · rw [if_neg h2, if_neg (by omega)]; omega
theorem ixI_hit {p : Int → Bool} {l : List Int} {k : Nat} (h : k < l.length) (ha : ∀ i, i < k → p (l.getD i 0) = false) (hk : p (l.getD k 0) = true) : ixI p l = k := by
  rw [ixI_drop (by omega) ha, List.drop_eq_getElem_cons h, ixI]
  have e : l.getD k 0 = l[k] := by rw [List.getD_eq_getElem?_getD, List.getElem?_eq_getElem h]; rfl
  rw [e] at hk
  rw [if_pos hk]
  simp
theorem ixI_none {p : Int → Bool} {l : List Int} (ha : ∀ i, i < l.length → p (l.getD i 0) = false) : ixI p l = -1 := by
  rw [ixI_drop (Nat.le_refl _) ha, List.drop_length]
  rfl
theorem firstI_or {p : Int → Bool} : ∀ (l : List Int), (∃ k, k < l.length ∧ (∀ i, i < k → p (l.getD i 0) = false) ∧ p (l.getD k 0) = true) ∨ ∀ i, i < l.length → p (l.getD i 0) = false
  | [] => .inr fun i hi => by simp at hi
  | r :: l => by
    by_cases h : p r = true
    · exact .inl ⟨0, by simp, fun i hi => by omega, by simpa using h⟩
    · rcases firstI_or (p := p) l with ⟨k, h1, h2, h3⟩ | h2
      · refine .inl ⟨k + 1, by simpa using h1, fun i hi => ?_, by simpa using h3⟩
        cases i with
        | zero => simpa using h
        | succ i => simpa using h2 i (by omega)
      · refine .inr fun i hi => ?_
        cases i with
        | zero => simpa using h
        | succ i => simpa using h2 i (by simpa using hi)
def RuleNmd (p : Int → Bool) (B1 B2 : Nat) (w : World) : Prop := ∀ wr, Below w.heap.size w wr → ∀ a : Int, Calls Try.prog 25 #[.int .i64 a, .pointer (some ⟨B1, 0, none⟩), .pointer (some ⟨B2, 0, none⟩)] wr fun e w' => e = .returned (.bool (p a)) ∧ Below wr.heap.size wr w'
set_option maxHeartbeats 2000000 in
theorem csNmdIdx (p : Int → Bool) (B1 B2 : Nat) (v : Value) (l : List Int) (w : World) (h : Sl .i64 w v l) (hd : RuleNmd p B1 B2 w) :
    Calls Try.prog 26 #[v, .func (.func 25) #[] #[.pointer (some ⟨B1, 0, none⟩), .pointer (some ⟨B2, 0, none⟩)]] w fun e w' => e = .returned (.int .i64 (ixI p l)) ∧ Below w.heap.size w w' := by
  have ml := h.len
  obtain ⟨a1, cap1, rfl, q1, -, h1⟩ := h
  obtain ⟨n, hn⟩ : ∃ n, n = l.length := ⟨_, rfl⟩
  obtain ⟨R, hR⟩ : ∃ R, R = ixI p l := ⟨_, rfl⟩
  have hH : ∀ k, k < n → (∀ i, i < k → p (l.getD i 0) = false) → p (l.getD k 0) = true → R = (k : Int) := fun k hk ha hh => hR.trans (ixI_hit (by omega) ha hh)
  have hN : (∀ i, i < n → p (l.getD i 0) = false) → R = -1 := fun ha => hR.trans (ixI_none (by rw [← hn]; exact ha))
  rw [← hR]
  have HH := hid hH
  have HN := hid hN
  have H1 := hid h1
  have HD := hid hd
  rw [← hn] at ml q1 H1 ⊢
  clear hH hN h1 hn hR hd
  go_enter Try.func26, Try.ntmps26
  go_wp2_with (fail)
  go_loopw [8] (fun iv wr => ∃ k : Nat, k ≤ n ∧ iv = .int .i64 k ∧ Hid (Below w.heap.size w wr) ∧ Hid (∀ i, i < k → p (l.getD i 0) = false)) (fun iv _ => n - (intOf iv).toNat)
  case atStart => exact ⟨0, by omega, rfl, Below.refl _ _, fun i hi => absurd hi (by omega)⟩
  case round =>
    obtain ⟨k, hk, rfl, hbel, hall⟩ := hrel
    by_cases hlt : k < n
    · rcases H1.out with hc | ⟨b1, o1, rfl, hb1, c1⟩
      · omega
      have hb1' := hb1 (by omega)
      have d1 := (hbel.out.cell (p := ⟨b1, o1 + k, none⟩) hb1').trans (c1 k hlt)
      have hh := hid (HH.out k hlt hall.out)
      have HNX := hid (show p (l.getD k 0) = false → ∀ i, i < k + 1 → p (l.getD i 0) = false from fun he i hi => by
        rcases Nat.lt_or_ge i k with h | h
        · exact hall.out i h
        · obtain rfl : i = k := by omega
          exact he)
      have HC := hid (HD.out wr hbel.out (l.getD k 0))
      clear c1
      generalize l.getD k 0 = x at d1 hh HNX HC
      obtain ⟨b, hb⟩ : ∃ b, b = p x := ⟨_, rfl⟩
      rw [← hb] at hh HNX HC
      clear hb
      cases b with
      | true =>
        have hr := hid (hh.out rfl)
        go_wp2_with (go_at_call 25; refine HC.out.mono ?_; rintro e wu ⟨rfl, hbu⟩; have HBU := hid (hbel.out.trans (hbu.mono hbel.out.size)); clear hbu)
        go_ret
        exact ⟨by rw [hr.out]; rfl, HBU.out⟩
      | false =>
        have hr := hid (HNX.out rfl)
        go_wp2_with (go_at_call 25; refine HC.out.mono ?_; rintro e wu ⟨rfl, hbu⟩; have HBU := hid (hbel.out.trans (hbu.mono hbel.out.size)); clear hbu)
        go_roundw
        case rel => exact ⟨k + 1, by omega, by go_num, HBU.out, hr.out⟩
        case measure => simp [intOf]; omega
    · obtain rfl : k = n := by omega
      have hr := hid (HN.out hall.out)
      go_wp2_with (fail)
      go_ret
      exact ⟨by rw [hr.out]; rfl, hbel.out⟩
theorem csNmdFirst (p : Int → Bool) (B1 B2 : Nat) (v : Value) (l : List Int) (w : World) (h : Sl .i64 w v l) (hd : RuleNmd p B1 B2 w) :
    Calls Try.prog 24 #[v, .func (.func 25) #[] #[.pointer (some ⟨B1, 0, none⟩), .pointer (some ⟨B2, 0, none⟩)]] w fun e w' => e = .returned (.tuple #[.int .i64 (fndI p l).1, .bool (fndI p l).2]) ∧ Below w.heap.size w w' := by
  have HI := hid (csNmdIdx p B1 B2 v l w h hd)
  have ml := h.len
  clear hd
  rcases firstI_or (p := p) l with ⟨k, hk, ha, hp⟩ | hn
  · rw [ixI_hit hk ha hp] at HI
    rw [fndI_hit (p := p) hk ha hp]
    clear ha hp
    obtain ⟨a1, cap1, rfl, q1, -, h1⟩ := h
    rcases h1 with hc | ⟨b1, o1, rfl, hb1, c1⟩
    · omega
    have D1 := hid (c1 k hk)
    have hb1' := hb1 (by omega)
    have hneg : decide ((k : Int) < 0) = false := by simp
    generalize l.getD k 0 = x at D1 ⊢
    generalize l.length = n at *
    clear c1 hb1
    go_enter Try.func24, Try.ntmps24
    go_wp2_with (go_at_call 26; refine HI.out.mono ?_; rintro e w1 ⟨rfl, hb1⟩; have HB1 := hid hb1; have g1 := (hb1.cell (p := ⟨b1, o1 + k, none⟩) hb1').trans D1.out; clear hb1)
    go_ret2
    exact ⟨rfl, HB1.out⟩
  · rw [ixI_none hn] at HI
    rw [fndI_none (p := p) hn]
    clear hn
    obtain ⟨a1, cap1, rfl, q1, -, -⟩ := h
    generalize l.length = n at *
    go_enter Try.func24, Try.ntmps24
    go_wp2_with (go_at_call 26; refine HI.out.mono ?_; rintro e w1 ⟨rfl, hb1⟩; have HB1 := hid hb1; clear hb1)
    go_ret2
    exact ⟨rfl, HB1.out⟩
theorem csNamed (v : Value) (l : List Int) (fin : Int) (wd : Bool) (w : World) (h : Sl .i64 w v l) :
    Calls Try.prog 23 #[v, .int .i64 fin, .bool wd] w fun e w' => e = .returned (.tuple #[.int .i64 (fndI (finB fin wd) l).1, .bool (fndI (finB fin wd) l).2]) ∧ Below w.heap.size w w' := by
  have hb0 : Below w.heap.size w ((w.alloc (.cells #[.int .i64 fin] 3)).alloc (.cells #[.bool wd] 4)) := by (repeat (first | exact Below.refl _ _ | exact below_drewN _ | refine Below.drew ?_ | refine Below.alloc ?_ (by simp) _ | refine Below.setCell ?_ (by simp) _ | refine below_drewN' ?_ _))
  have HB0 := hid hb0
  have x1 := ((Box.made w 3 [.int .i64 fin]).alloc (.cells #[.bool wd] 4)).cell 0
  have x2 := (box_last w (.cells #[.int .i64 fin] 3) 4 [.bool wd]).cell 0
  simp only [List.getElem?_cons_zero] at x1 x2
  obtain ⟨q, hq⟩ : ∃ q, q = (fin == 0) := ⟨_, rfl⟩
  have HS := hid (h.below hb0)
  obtain ⟨a1, cap1, hv⟩ := h.form
  cases q with
  | true =>
    have hr := hid (show fndI (finB fin wd) l = (0, false) from fndI_none fun i hi => by
      have h0 : fin = 0 := by simpa using hq.symm
      subst h0
      rfl)
    rw [hr.out]
    replace hq := hq.symm
    subst hv
    generalize l.length = n at *
    clear h hb0
    go_enter Try.func23, Try.ntmps23
    go_wp2_with (fail)
    go_ret2
    exact ⟨rfl, HB0.out⟩
  | false =>
    have hne : (fin != 0) = true := by
      have : ¬ fin = 0 := by simpa using hq.symm
      simpa using this
    have he : finB fin wd = fun x => finalS x == fin && (x == 87) == wd := by
      funext x
      unfold finB
      rw [hne, Bool.true_and]
    have HC := hid (csNmdFirst (finB fin wd) w.heap.size (w.heap.size + 1) v l _ HS.out (fun wr hwr a => by
      rw [he]
      exact csNmdRule _ _ fin wd a wr ((hwr.cell (World.block_lt_of_cell? _ _ x1)).trans x1) ((hwr.cell (World.block_lt_of_cell? _ _ x2)).trans x2)))
    generalize fndI (finB fin wd) l = R at HC ⊢
    replace hq := hq.symm
    subst hv
    generalize l.length = n at *
    clear h hb0 he HS hne
    go_enter Try.func23, Try.ntmps23
    go_wp2_with (go_at_call 24; refine HC.out.mono ?_; rintro e w1 ⟨rfl, hb1⟩; have HB1 := hid (HB0.out.trans (hb1.mono HB0.out.size)); clear hb1)
    go_ret2
    exact ⟨rfl, HB1.out⟩
theorem csByFinal (f : Int) (wide : Bool) (w : World) : Calls Try.prog 22 #[.int .i64 f, .bool wide] w fun e w' => e = .returned (.tuple #[.int .i64 (byFinS f wide).1, .bool (byFinS f wide).2]) ∧ Below w.heap.size w w' := by
  unfold byFinS
  have HC := hid (fun (v : Value) (w : World) (h : Sl .i64 w v (tabSets ++ [103])) => csNamed v (tabSets ++ [103]) f wide w h)
  generalize fndI (finB f wide) (tabSets ++ [103]) = R at HC ⊢
  have HA := hid (fun w => apiSets w)
  have HN := hid (show tabSets.length = 6 from rfl)
  generalize tabSets = T at HC HA HN ⊢
  go_enter Try.func22, Try.ntmps22
  go_wp2_with (first
    | (go_at_call 23; refine (HC.out v2 w2 HO2.out.sl).mono ?_; rintro e w3 ⟨rfl, hb3⟩; have HB3 := hid (HB2.out.trans (hb3.mono HB2.out.size)); clear hb3)
    | (at_builtin; go_loud (refine wpList_app _ rfl _ _ 22 rfl .i64 w.heap.size 3 8 Try.underlying22 Try.infoI64 _ T [103] rfl (HO1.out.alloc (.cells #[.int .i64 103] 3)) _ rfl (one_sl (by first | simp | rfl)) (by have := HN.out; unfold maxLen; simp; omega) (by have := HN.out; simp; omega) (by have := HB1.out.size; simp; omega) ?_); intro v2 w2 ho2 hg2 hb2 hn2; have HO2 := hid ho2; have HB2 := hid ((HB1.out.alloc HB1.out.size (.cells #[.int .i64 103] 3)).trans (hb2.mono (Nat.le_refl _))); clear ho2 hg2 hb2 hn2)
    | (go_at_call 6; refine (HA.out _).mono ?_; rintro e w1 ⟨v1, rfl, ho1, hb1⟩; obtain ⟨a1, c1, hv1⟩ := ho1.sl.form; rw [HN.out] at hv1; subst hv1; have HO1 := hid ho1; have HB1 := hid hb1; clear ho1 hb1))
  go_ret2
  exact ⟨rfl, HB3.out⟩
end Go.Proofs.Ytkjhbfcblnbkfaa
