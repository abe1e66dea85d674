/- Walk of law15's NarrowFirst, out of what is asked of package narrow. -/
import Derived.Test.YtelpbjiohkeobaaNarOk
import Derived.Test.YtelpbjiohkeobaaRepNum
namespace Go.Proofs.Ytelpbjiohkeobaa
open Go.RowKit
theorem all_getD {s : List Int} (h : s.all inI = true) (i : Nat) : inI (s.getD i 0) = true := by
  rw [List.getD_eq_getElem?_getD]
  cases e : s[i]? with
  | none => decide
  | some x => exact List.all_eq_true.1 h x (List.mem_of_getElem? e)

set_option maxRecDepth 10000 in
set_option maxHeartbeats 4000000 in
theorem walkFirst15_0 (HP : NPutOk) (HG : NGetOk) (HH : NHasOk) (which : Int) (v1 : Value) (s : List Int) (w : World) (hK : wrap64 ((IntKind.u64.wrap which).tmod 4) = 0) (h1 : Sl .i64 w v1 s) (hi : s.all inI = true) :
    Calls Try.prog 5 #[.int .i64 which, v1] w fun e w' => e = .returned (.bool true) ∧ Below w.heap.size w w' := by
  have HS_s := hid h1
  have ml_s := h1.len
  obtain ⟨a_s, c_s, hv_s⟩ := h1.form
  obtain ⟨ns, hn_s⟩ : ∃ n, n = s.length := ⟨_, rfl⟩
  rw [← hn_s] at hv_s ml_s
  subst hv_s
  have HN_s := hid hn_s
  clear hn_s h1
  have HW := hid (fun w => lawWakes15 HP HG HH w)
  have HB0 := hid (Below.refl w.heap.size w)
  by_cases hl_ns : ns ≤ 400
  · have G1 := hid (fun v w h => HP 18 v s w h hi (by have := HN_s.out; omega))
    have HA := hid (fun i (hi2 : i < ns) w => HH 18 (s.getD i 0) w (all_getD hi i))
    rw [show nput 18 s = res3 14 (nchk 18 s) from rfl] at G1
    have HE := hid (nfrom_end 18 s)
    rw [← HN_s.out] at HE
    clear HP HG HH hi
    go_enter Try.func5, Try.ntmps5
    go_wp2
    go_loopw [6, 7] (fun av iv wr => ∃ (j t : Nat) (z : Int), j ≤ ns ∧ z + 1 = (j : Int) ∧ iv = .int .i64 z ∧ av = .int .i64 (t : Int) ∧ t ≤ ns ∧ Hid (nfrom 18 s j = t) ∧ Hid (Below w.heap.size w wr)) (fun _ iv _ => (intOf iv + 1).toNat)
    case atStart => exact ⟨ns, ns, (ns : Int) - 1, Nat.le_refl _, by omega, rfl, rfl, Nat.le_refl _, HE.out, (Below.refl _ _).alloc (Nat.le_refl _) _⟩
    case round =>
      obtain ⟨j, t, z, hj, hz, rfl, rfl, ht, hat, hbel⟩ := hrel
      clear hK
      cases j with
      | zero =>
        obtain rfl : z = -1 := by omega
        clear hz hj
        cases hc : nchk 18 s with
        | inl x =>
          have hx := (nchk_same hc).1
          subst hx
          obtain rfl : ns = t := by rw [← hat.out, nfrom_inl hc]; exact HN_s.out
          rw [hc] at G1
          simp only [res3, outAt, outE, outL] at G1
          clear hc HA HE hat
          go_wp2_with (first
            | (have _u := HB1; clear _u; go_at_call 16; refine (HW.out _).mono ?_; rintro e w2 ⟨rfl, hb2⟩; have HB2 := hid (HB1.out.trans (hb2.mono HB1.out.size)); clear hb2)
            | (go_at_call 8; go_loud (refine (G1.out _ _ (HS_s.out.below hbel.out)).mono ?_); rintro e w1 ⟨v1, rfl, ho1, hb1⟩; obtain ⟨a1, c1, hv1⟩ := ho1.sl.form; rw [← HN_s.out] at hv1; subst hv1; have HB1 := hid (hbel.out.trans (hb1.mono hbel.out.size)); clear hb1 ho1))
          go_ret
          exact ⟨rfl, HB2.out⟩
        | inr q =>
          obtain ⟨hq, -⟩ := nchk_bad hc
          obtain rfl : q = t := by rw [← hat.out, nfrom_inr hc]
          have hq2 : q < ns := by rw [HN_s.out]; exact hq
          rw [hc] at G1
          simp only [res3, outAt, outE, outL] at G1
          clear hc HA HE hat hq ht
          go_wp2_with (first
            | (have _u := HB1; clear _u; go_at_call 16; refine (HW.out _).mono ?_; rintro e w2 ⟨rfl, hb2⟩; have HB2 := hid (HB1.out.trans (hb2.mono HB1.out.size)); clear hb2)
            | (go_at_call 8; go_loud (refine (G1.out _ _ (HS_s.out.below hbel.out)).mono ?_); rintro e w1 ⟨v1, rfl, ho1, hb1⟩; obtain ⟨a1, c1, hv1⟩ := ho1.sl.form; simp only [List.length_nil] at hv1; subst hv1; have HB1 := hid (hbel.out.trans (hb1.mono hbel.out.size)); clear hb1 ho1))
          go_ret
          exact ⟨rfl, HB2.out⟩
      | succ i =>
        obtain rfl : z = (i : Int) := by omega
        have hin : i < ns := hj
        clear hz
        obtain ⟨a1, cap1, hv, q1, -, hc⟩ := HS_s.out
        injection hv with e1 e2 e3
        subst e1 e3
        rcases hc with hcc | ⟨b1, o1, rfl, hb1, hc⟩
        · have := HN_s.out; omega
        have hb1' := hb1 (by have := HN_s.out; omega)
        have d1 := (hbel.out.cell (p := ⟨b1, o1 + i, none⟩) hb1').trans (hc i (by have := HN_s.out; omega))
        have HI := hid (HA.out i hin)
        have hst := nfrom_step (kind := 18) (s := s) (j := i) (by have := HN_s.out; omega)
        clear hc hb1 hb1' e2 q1 HE HA
        generalize s.getD i 0 = c at d1 HI hst
        cases hsc : narB 18 c with
        | true =>
          rw [hsc, if_pos rfl, hat.out] at hst
          rw [hsc] at HI
          have HST := hid hst
          clear hsc hst
          go_wp2_with (go_at_call 12; with_reducible refine (HI.out _).mono ?_; rintro e w1 ⟨rfl, hb1⟩; have HB1 := hid (hbel.out.trans (hb1.mono hbel.out.size)); clear hb1)
          go_roundw
          case rel => exact ⟨i, t, (i : Int) - 1, by omega, by omega, by go_num, rfl, ht, HST.out, HB1.out⟩
          case measure => simp [intOf]
        | false =>
          rw [hsc, if_neg (by simp)] at hst
          rw [hsc] at HI
          have HST := hid hst
          clear hsc hst
          go_wp2_with (go_at_call 12; with_reducible refine (HI.out _).mono ?_; rintro e w1 ⟨rfl, hb1⟩; have HB1 := hid (hbel.out.trans (hb1.mono hbel.out.size)); clear hb1)
          go_roundw
          case rel => exact ⟨i, i, (i : Int) - 1, by omega, by omega, by go_num, rfl, by omega, HST.out, HB1.out⟩
          case measure => simp [intOf]
  · have hf_ns : 400 < ns := by omega
    clear hl_ns HP HG HH
    go_enter Try.func5, Try.ntmps5
    go_wp2
    go_ret
    exact ⟨rfl, Below.refl _ _⟩

set_option maxRecDepth 10000 in
set_option maxHeartbeats 4000000 in
theorem walkFirst15_1 (HP : NPutOk) (HG : NGetOk) (HH : NHasOk) (which : Int) (v1 : Value) (s : List Int) (w : World) (hK : wrap64 ((IntKind.u64.wrap which).tmod 4) = 1) (h1 : Sl .i64 w v1 s) (hi : s.all inI = true) :
    Calls Try.prog 5 #[.int .i64 which, v1] w fun e w' => e = .returned (.bool true) ∧ Below w.heap.size w w' := by
  have HS_s := hid h1
  have ml_s := h1.len
  obtain ⟨a_s, c_s, hv_s⟩ := h1.form
  obtain ⟨ns, hn_s⟩ : ∃ n, n = s.length := ⟨_, rfl⟩
  rw [← hn_s] at hv_s ml_s
  subst hv_s
  have HN_s := hid hn_s
  clear hn_s h1
  have HW := hid (fun w => lawWakes15 HP HG HH w)
  have HB0 := hid (Below.refl w.heap.size w)
  by_cases hl_ns : ns ≤ 400
  · have G1 := hid (fun v w h => HP 19 v s w h hi (by have := HN_s.out; omega))
    have HA := hid (fun i (hi2 : i < ns) w => HH 19 (s.getD i 0) w (all_getD hi i))
    rw [show nput 19 s = res3 14 (nchk 19 s) from rfl] at G1
    have HE := hid (nfrom_end 19 s)
    rw [← HN_s.out] at HE
    clear HP HG HH hi
    go_enter Try.func5, Try.ntmps5
    go_wp2
    go_loopw [6, 7] (fun av iv wr => ∃ (j t : Nat) (z : Int), j ≤ ns ∧ z + 1 = (j : Int) ∧ iv = .int .i64 z ∧ av = .int .i64 (t : Int) ∧ t ≤ ns ∧ Hid (nfrom 19 s j = t) ∧ Hid (Below w.heap.size w wr)) (fun _ iv _ => (intOf iv + 1).toNat)
    case atStart => exact ⟨ns, ns, (ns : Int) - 1, Nat.le_refl _, by omega, rfl, rfl, Nat.le_refl _, HE.out, (Below.refl _ _).alloc (Nat.le_refl _) _⟩
    case round =>
      obtain ⟨j, t, z, hj, hz, rfl, rfl, ht, hat, hbel⟩ := hrel
      clear hK
      cases j with
      | zero =>
        obtain rfl : z = -1 := by omega
        clear hz hj
        cases hc : nchk 19 s with
        | inl x =>
          have hx := (nchk_same hc).1
          subst hx
          obtain rfl : ns = t := by rw [← hat.out, nfrom_inl hc]; exact HN_s.out
          rw [hc] at G1
          simp only [res3, outAt, outE, outL] at G1
          clear hc HA HE hat
          go_wp2_with (first
            | (have _u := HB1; clear _u; go_at_call 16; refine (HW.out _).mono ?_; rintro e w2 ⟨rfl, hb2⟩; have HB2 := hid (HB1.out.trans (hb2.mono HB1.out.size)); clear hb2)
            | (go_at_call 8; go_loud (refine (G1.out _ _ (HS_s.out.below hbel.out)).mono ?_); rintro e w1 ⟨v1, rfl, ho1, hb1⟩; obtain ⟨a1, c1, hv1⟩ := ho1.sl.form; rw [← HN_s.out] at hv1; subst hv1; have HB1 := hid (hbel.out.trans (hb1.mono hbel.out.size)); clear hb1 ho1))
          go_ret
          exact ⟨rfl, HB2.out⟩
        | inr q =>
          obtain ⟨hq, -⟩ := nchk_bad hc
          obtain rfl : q = t := by rw [← hat.out, nfrom_inr hc]
          have hq2 : q < ns := by rw [HN_s.out]; exact hq
          rw [hc] at G1
          simp only [res3, outAt, outE, outL] at G1
          clear hc HA HE hat hq ht
          go_wp2_with (first
            | (have _u := HB1; clear _u; go_at_call 16; refine (HW.out _).mono ?_; rintro e w2 ⟨rfl, hb2⟩; have HB2 := hid (HB1.out.trans (hb2.mono HB1.out.size)); clear hb2)
            | (go_at_call 8; go_loud (refine (G1.out _ _ (HS_s.out.below hbel.out)).mono ?_); rintro e w1 ⟨v1, rfl, ho1, hb1⟩; obtain ⟨a1, c1, hv1⟩ := ho1.sl.form; simp only [List.length_nil] at hv1; subst hv1; have HB1 := hid (hbel.out.trans (hb1.mono hbel.out.size)); clear hb1 ho1))
          go_ret
          exact ⟨rfl, HB2.out⟩
      | succ i =>
        obtain rfl : z = (i : Int) := by omega
        have hin : i < ns := hj
        clear hz
        obtain ⟨a1, cap1, hv, q1, -, hc⟩ := HS_s.out
        injection hv with e1 e2 e3
        subst e1 e3
        rcases hc with hcc | ⟨b1, o1, rfl, hb1, hc⟩
        · have := HN_s.out; omega
        have hb1' := hb1 (by have := HN_s.out; omega)
        have d1 := (hbel.out.cell (p := ⟨b1, o1 + i, none⟩) hb1').trans (hc i (by have := HN_s.out; omega))
        have HI := hid (HA.out i hin)
        have hst := nfrom_step (kind := 19) (s := s) (j := i) (by have := HN_s.out; omega)
        clear hc hb1 hb1' e2 q1 HE HA
        generalize s.getD i 0 = c at d1 HI hst
        cases hsc : narB 19 c with
        | true =>
          rw [hsc, if_pos rfl, hat.out] at hst
          rw [hsc] at HI
          have HST := hid hst
          clear hsc hst
          go_wp2_with (go_at_call 12; with_reducible refine (HI.out _).mono ?_; rintro e w1 ⟨rfl, hb1⟩; have HB1 := hid (hbel.out.trans (hb1.mono hbel.out.size)); clear hb1)
          go_roundw
          case rel => exact ⟨i, t, (i : Int) - 1, by omega, by omega, by go_num, rfl, ht, HST.out, HB1.out⟩
          case measure => simp [intOf]
        | false =>
          rw [hsc, if_neg (by simp)] at hst
          rw [hsc] at HI
          have HST := hid hst
          clear hsc hst
          go_wp2_with (go_at_call 12; with_reducible refine (HI.out _).mono ?_; rintro e w1 ⟨rfl, hb1⟩; have HB1 := hid (hbel.out.trans (hb1.mono hbel.out.size)); clear hb1)
          go_roundw
          case rel => exact ⟨i, i, (i : Int) - 1, by omega, by omega, by go_num, rfl, by omega, HST.out, HB1.out⟩
          case measure => simp [intOf]
  · have hf_ns : 400 < ns := by omega
    clear hl_ns HP HG HH
    go_enter Try.func5, Try.ntmps5
    go_wp2
    go_ret
    exact ⟨rfl, Below.refl _ _⟩

set_option maxRecDepth 10000 in
set_option maxHeartbeats 4000000 in
theorem walkFirst15_2 (HP : NPutOk) (HG : NGetOk) (HH : NHasOk) (which : Int) (v1 : Value) (s : List Int) (w : World) (hK : wrap64 ((IntKind.u64.wrap which).tmod 4) = 2) (h1 : Sl .i64 w v1 s) (hi : s.all inI = true) :
    Calls Try.prog 5 #[.int .i64 which, v1] w fun e w' => e = .returned (.bool true) ∧ Below w.heap.size w w' := by
  have HS_s := hid h1
  have ml_s := h1.len
  obtain ⟨a_s, c_s, hv_s⟩ := h1.form
  obtain ⟨ns, hn_s⟩ : ∃ n, n = s.length := ⟨_, rfl⟩
  rw [← hn_s] at hv_s ml_s
  subst hv_s
  have HN_s := hid hn_s
  clear hn_s h1
  have HW := hid (fun w => lawWakes15 HP HG HH w)
  have HB0 := hid (Below.refl w.heap.size w)
  by_cases hl_ns : ns ≤ 400
  · have G1 := hid (fun v w h => HP 22 v s w h hi (by have := HN_s.out; omega))
    have HA := hid (fun i (hi2 : i < ns) w => HH 22 (s.getD i 0) w (all_getD hi i))
    rw [show nput 22 s = res3 14 (nchk 22 s) from rfl] at G1
    have HE := hid (nfrom_end 22 s)
    rw [← HN_s.out] at HE
    clear HP HG HH hi
    go_enter Try.func5, Try.ntmps5
    go_wp2
    go_loopw [6, 7] (fun av iv wr => ∃ (j t : Nat) (z : Int), j ≤ ns ∧ z + 1 = (j : Int) ∧ iv = .int .i64 z ∧ av = .int .i64 (t : Int) ∧ t ≤ ns ∧ Hid (nfrom 22 s j = t) ∧ Hid (Below w.heap.size w wr)) (fun _ iv _ => (intOf iv + 1).toNat)
    case atStart => exact ⟨ns, ns, (ns : Int) - 1, Nat.le_refl _, by omega, rfl, rfl, Nat.le_refl _, HE.out, (Below.refl _ _).alloc (Nat.le_refl _) _⟩
    case round =>
      obtain ⟨j, t, z, hj, hz, rfl, rfl, ht, hat, hbel⟩ := hrel
      clear hK
      cases j with
      | zero =>
        obtain rfl : z = -1 := by omega
        clear hz hj
        cases hc : nchk 22 s with
        | inl x =>
          have hx := (nchk_same hc).1
          subst hx
          obtain rfl : ns = t := by rw [← hat.out, nfrom_inl hc]; exact HN_s.out
          rw [hc] at G1
          simp only [res3, outAt, outE, outL] at G1
          clear hc HA HE hat
          go_wp2_with (first
            | (have _u := HB1; clear _u; go_at_call 16; refine (HW.out _).mono ?_; rintro e w2 ⟨rfl, hb2⟩; have HB2 := hid (HB1.out.trans (hb2.mono HB1.out.size)); clear hb2)
            | (go_at_call 8; go_loud (refine (G1.out _ _ (HS_s.out.below hbel.out)).mono ?_); rintro e w1 ⟨v1, rfl, ho1, hb1⟩; obtain ⟨a1, c1, hv1⟩ := ho1.sl.form; rw [← HN_s.out] at hv1; subst hv1; have HB1 := hid (hbel.out.trans (hb1.mono hbel.out.size)); clear hb1 ho1))
          go_ret
          exact ⟨rfl, HB2.out⟩
        | inr q =>
          obtain ⟨hq, -⟩ := nchk_bad hc
          obtain rfl : q = t := by rw [← hat.out, nfrom_inr hc]
          have hq2 : q < ns := by rw [HN_s.out]; exact hq
          rw [hc] at G1
          simp only [res3, outAt, outE, outL] at G1
          clear hc HA HE hat hq ht
          go_wp2_with (first
            | (have _u := HB1; clear _u; go_at_call 16; refine (HW.out _).mono ?_; rintro e w2 ⟨rfl, hb2⟩; have HB2 := hid (HB1.out.trans (hb2.mono HB1.out.size)); clear hb2)
            | (go_at_call 8; go_loud (refine (G1.out _ _ (HS_s.out.below hbel.out)).mono ?_); rintro e w1 ⟨v1, rfl, ho1, hb1⟩; obtain ⟨a1, c1, hv1⟩ := ho1.sl.form; simp only [List.length_nil] at hv1; subst hv1; have HB1 := hid (hbel.out.trans (hb1.mono hbel.out.size)); clear hb1 ho1))
          go_ret
          exact ⟨rfl, HB2.out⟩
      | succ i =>
        obtain rfl : z = (i : Int) := by omega
        have hin : i < ns := hj
        clear hz
        obtain ⟨a1, cap1, hv, q1, -, hc⟩ := HS_s.out
        injection hv with e1 e2 e3
        subst e1 e3
        rcases hc with hcc | ⟨b1, o1, rfl, hb1, hc⟩
        · have := HN_s.out; omega
        have hb1' := hb1 (by have := HN_s.out; omega)
        have d1 := (hbel.out.cell (p := ⟨b1, o1 + i, none⟩) hb1').trans (hc i (by have := HN_s.out; omega))
        have HI := hid (HA.out i hin)
        have hst := nfrom_step (kind := 22) (s := s) (j := i) (by have := HN_s.out; omega)
        clear hc hb1 hb1' e2 q1 HE HA
        generalize s.getD i 0 = c at d1 HI hst
        cases hsc : narB 22 c with
        | true =>
          rw [hsc, if_pos rfl, hat.out] at hst
          rw [hsc] at HI
          have HST := hid hst
          clear hsc hst
          go_wp2_with (go_at_call 12; with_reducible refine (HI.out _).mono ?_; rintro e w1 ⟨rfl, hb1⟩; have HB1 := hid (hbel.out.trans (hb1.mono hbel.out.size)); clear hb1)
          go_roundw
          case rel => exact ⟨i, t, (i : Int) - 1, by omega, by omega, by go_num, rfl, ht, HST.out, HB1.out⟩
          case measure => simp [intOf]
        | false =>
          rw [hsc, if_neg (by simp)] at hst
          rw [hsc] at HI
          have HST := hid hst
          clear hsc hst
          go_wp2_with (go_at_call 12; with_reducible refine (HI.out _).mono ?_; rintro e w1 ⟨rfl, hb1⟩; have HB1 := hid (hbel.out.trans (hb1.mono hbel.out.size)); clear hb1)
          go_roundw
          case rel => exact ⟨i, i, (i : Int) - 1, by omega, by omega, by go_num, rfl, by omega, HST.out, HB1.out⟩
          case measure => simp [intOf]
  · have hf_ns : 400 < ns := by omega
    clear hl_ns HP HG HH
    go_enter Try.func5, Try.ntmps5
    go_wp2
    go_ret
    exact ⟨rfl, Below.refl _ _⟩

set_option maxRecDepth 10000 in
set_option maxHeartbeats 4000000 in
theorem walkFirst15_3 (HP : NPutOk) (HG : NGetOk) (HH : NHasOk) (which : Int) (v1 : Value) (s : List Int) (w : World) (hK : wrap64 ((IntKind.u64.wrap which).tmod 4) = 3) (h1 : Sl .i64 w v1 s) (hi : s.all inI = true) :
    Calls Try.prog 5 #[.int .i64 which, v1] w fun e w' => e = .returned (.bool true) ∧ Below w.heap.size w w' := by
  have HS_s := hid h1
  have ml_s := h1.len
  obtain ⟨a_s, c_s, hv_s⟩ := h1.form
  obtain ⟨ns, hn_s⟩ : ∃ n, n = s.length := ⟨_, rfl⟩
  rw [← hn_s] at hv_s ml_s
  subst hv_s
  have HN_s := hid hn_s
  clear hn_s h1
  have HW := hid (fun w => lawWakes15 HP HG HH w)
  have HB0 := hid (Below.refl w.heap.size w)
  by_cases hl_ns : ns ≤ 400
  · have G1 := hid (fun v w h => HP 26 v s w h hi (by have := HN_s.out; omega))
    have HA := hid (fun i (hi2 : i < ns) w => HH 26 (s.getD i 0) w (all_getD hi i))
    rw [show nput 26 s = res3 14 (nchk 26 s) from rfl] at G1
    have HE := hid (nfrom_end 26 s)
    rw [← HN_s.out] at HE
    clear HP HG HH hi
    go_enter Try.func5, Try.ntmps5
    go_wp2
    go_loopw [6, 7] (fun av iv wr => ∃ (j t : Nat) (z : Int), j ≤ ns ∧ z + 1 = (j : Int) ∧ iv = .int .i64 z ∧ av = .int .i64 (t : Int) ∧ t ≤ ns ∧ Hid (nfrom 26 s j = t) ∧ Hid (Below w.heap.size w wr)) (fun _ iv _ => (intOf iv + 1).toNat)
    case atStart => exact ⟨ns, ns, (ns : Int) - 1, Nat.le_refl _, by omega, rfl, rfl, Nat.le_refl _, HE.out, (Below.refl _ _).alloc (Nat.le_refl _) _⟩
    case round =>
      obtain ⟨j, t, z, hj, hz, rfl, rfl, ht, hat, hbel⟩ := hrel
      clear hK
      cases j with
      | zero =>
        obtain rfl : z = -1 := by omega
        clear hz hj
        cases hc : nchk 26 s with
        | inl x =>
          have hx := (nchk_same hc).1
          subst hx
          obtain rfl : ns = t := by rw [← hat.out, nfrom_inl hc]; exact HN_s.out
          rw [hc] at G1
          simp only [res3, outAt, outE, outL] at G1
          clear hc HA HE hat
          go_wp2_with (first
            | (have _u := HB1; clear _u; go_at_call 16; refine (HW.out _).mono ?_; rintro e w2 ⟨rfl, hb2⟩; have HB2 := hid (HB1.out.trans (hb2.mono HB1.out.size)); clear hb2)
            | (go_at_call 8; go_loud (refine (G1.out _ _ (HS_s.out.below hbel.out)).mono ?_); rintro e w1 ⟨v1, rfl, ho1, hb1⟩; obtain ⟨a1, c1, hv1⟩ := ho1.sl.form; rw [← HN_s.out] at hv1; subst hv1; have HB1 := hid (hbel.out.trans (hb1.mono hbel.out.size)); clear hb1 ho1))
          go_ret
          exact ⟨rfl, HB2.out⟩
        | inr q =>
          obtain ⟨hq, -⟩ := nchk_bad hc
          obtain rfl : q = t := by rw [← hat.out, nfrom_inr hc]
          have hq2 : q < ns := by rw [HN_s.out]; exact hq
          rw [hc] at G1
          simp only [res3, outAt, outE, outL] at G1
          clear hc HA HE hat hq ht
          go_wp2_with (first
            | (have _u := HB1; clear _u; go_at_call 16; refine (HW.out _).mono ?_; rintro e w2 ⟨rfl, hb2⟩; have HB2 := hid (HB1.out.trans (hb2.mono HB1.out.size)); clear hb2)
            | (go_at_call 8; go_loud (refine (G1.out _ _ (HS_s.out.below hbel.out)).mono ?_); rintro e w1 ⟨v1, rfl, ho1, hb1⟩; obtain ⟨a1, c1, hv1⟩ := ho1.sl.form; simp only [List.length_nil] at hv1; subst hv1; have HB1 := hid (hbel.out.trans (hb1.mono hbel.out.size)); clear hb1 ho1))
          go_ret
          exact ⟨rfl, HB2.out⟩
      | succ i =>
        obtain rfl : z = (i : Int) := by omega
        have hin : i < ns := hj
        clear hz
        obtain ⟨a1, cap1, hv, q1, -, hc⟩ := HS_s.out
        injection hv with e1 e2 e3
        subst e1 e3
        rcases hc with hcc | ⟨b1, o1, rfl, hb1, hc⟩
        · have := HN_s.out; omega
        have hb1' := hb1 (by have := HN_s.out; omega)
        have d1 := (hbel.out.cell (p := ⟨b1, o1 + i, none⟩) hb1').trans (hc i (by have := HN_s.out; omega))
        have HI := hid (HA.out i hin)
        have hst := nfrom_step (kind := 26) (s := s) (j := i) (by have := HN_s.out; omega)
        clear hc hb1 hb1' e2 q1 HE HA
        generalize s.getD i 0 = c at d1 HI hst
        cases hsc : narB 26 c with
        | true =>
          rw [hsc, if_pos rfl, hat.out] at hst
          rw [hsc] at HI
          have HST := hid hst
          clear hsc hst
          go_wp2_with (go_at_call 12; with_reducible refine (HI.out _).mono ?_; rintro e w1 ⟨rfl, hb1⟩; have HB1 := hid (hbel.out.trans (hb1.mono hbel.out.size)); clear hb1)
          go_roundw
          case rel => exact ⟨i, t, (i : Int) - 1, by omega, by omega, by go_num, rfl, ht, HST.out, HB1.out⟩
          case measure => simp [intOf]
        | false =>
          rw [hsc, if_neg (by simp)] at hst
          rw [hsc] at HI
          have HST := hid hst
          clear hsc hst
          go_wp2_with (go_at_call 12; with_reducible refine (HI.out _).mono ?_; rintro e w1 ⟨rfl, hb1⟩; have HB1 := hid (hbel.out.trans (hb1.mono hbel.out.size)); clear hb1)
          go_roundw
          case rel => exact ⟨i, i, (i : Int) - 1, by omega, by omega, by go_num, rfl, by omega, HST.out, HB1.out⟩
          case measure => simp [intOf]
  · have hf_ns : 400 < ns := by omega
    clear hl_ns HP HG HH
    go_enter Try.func5, Try.ntmps5
    go_wp2
    go_ret
    exact ⟨rfl, Below.refl _ _⟩

theorem walkFirst15 (HP : NPutOk) (HG : NGetOk) (HH : NHasOk) (which : Int) (v1 : Value) (s : List Int) (w : World) (h1 : Sl .i64 w v1 s) (hi : s.all inI = true) :
    Calls Try.prog 5 #[.int .i64 which, v1] w fun e w' => e = .returned (.bool true) ∧ Below w.heap.size w w' := by
  obtain ⟨K, hK, hK1, hK2⟩ := ix_rem which 4 (by omega) (by omega)
  have hcs : K = 0 ∨ K = 1 ∨ K = 2 ∨ K = 3 := by omega
  rcases hcs with rfl | rfl | rfl | rfl
  · exact walkFirst15_0 HP HG HH which v1 s w hK h1 hi
  · exact walkFirst15_1 HP HG HH which v1 s w hK h1 hi
  · exact walkFirst15_2 HP HG HH which v1 s w hK h1 hi
  · exact walkFirst15_3 HP HG HH which v1 s w hK h1 hi
end Go.Proofs.Ytelpbjiohkeobaa
