/- Several texts in one: Ref6c, Ref8. -/
import Derived.Test.YtimbchkoomjhkaaPk13
import Derived.Test.YtimbchkoomjhkaaPk5
import Derived.Test.YtimbchkoomjhkaaPk3
/-! Ref6c -/
namespace Go.Proofs.Ytimbchkoomjhkaa
open Go.RowKit

set_option maxRecDepth 100000 in
theorem canon_off : (tabCanon.all fun r => scalarB r.f) = true := by decide +kernel
theorem canon_row (c : Int) : rowS (fndS (fun r => r.f == c) tabCanon) = canonS c := by
  cases hb : scalarB c with
  | true => exact canonS_t hb
  | false =>
    rw [← canonS_f hb]
    have key : ∀ l : List Rg, (l.all fun r => scalarB r.f) = true → fndS (fun r => r.f == c) l = (noRg, false) := fun l => by
      induction l with
      | nil => intro _; rfl
      | cons r l ih =>
        intro h
        simp only [List.all_cons, Bool.and_eq_true] at h
        rw [fndS]
        split
        · rename_i he
          have := eq_of_beq he
          rw [this, hb] at h
          simp at h
        · exact ih h.2
    rw [key _ canon_off]
    rfl

set_option maxHeartbeats 2000000 in
theorem refTCanon (B : Nat) (c : Int) (w : World) (h : TabsAt B w) : Calls Try.prog 69 #[.pointer (some ⟨B, 0, none⟩), .int .i64 c] w fun e w' => ∃ x, e = .returned x ∧ Sl .i64 w' x (canonS c) ∧ Below w.heap.size w w' := by
  obtain ⟨v1, v2, v3, v4, v5, hx, h1, h2, h3, h4, h5⟩ := h
  have HX := hid hx
  clear h2 h3 h4 h5 hx
  have ml := h1.len
  obtain ⟨l, hl⟩ : ∃ l, l = tabCanon := ⟨_, rfl⟩
  have hR : rowS (fndS (fun r => r.f == c) l) = canonS c := by rw [hl]; exact canon_row c
  rw [← hl] at h1 ml
  clear hl
  obtain ⟨a1, cap1, rfl, q1, -, h1⟩ := h1
  obtain ⟨n, hn⟩ : ∃ n, n = l.length := ⟨_, rfl⟩
  obtain ⟨R, hRR⟩ : ∃ R, R = canonS c := ⟨_, rfl⟩
  rw [← hRR] at hR ⊢
  have hH : ∀ k, k < n → (∀ i, i < k → ((l.getD i noRg).f == c) = false) → ((l.getD k noRg).f == c) = true → R = rowS (l.getD k noRg, true) := fun k hk ha hh => by rw [← hR, fndS_hit (p := fun r => r.f == c) (by omega) ha hh]
  have hN : (∀ i, i < n → ((l.getD i noRg).f == c) = false) → R = [] := fun ha => by rw [← hR, fndS_none (p := fun r => r.f == c) (by rw [← hn]; exact ha)]; rfl
  have HH := hid hH
  have HN := hid hN
  have H1 := hid h1
  rw [← hn] at ml q1 H1 HX
  clear hH hN h1 hn hR hRR
  have x0 := HX.out.cell 0
  simp only [List.getElem?_cons_zero] at x0
  go_enter Try.func69, Try.ntmps69
  go_wp2_with (fail)
  go_loopw [5] (fun iv wr => ∃ k : Nat, k ≤ n ∧ iv = .int .i64 k ∧ Hid (Below w.heap.size w wr) ∧ Hid (∀ i, i < k → ((l.getD i noRg).f == c) = false)) (fun iv _ => n - (intOf iv).toNat)
  case atStart => exact ⟨0, by omega, rfl, Below.refl _ _, fun i hi => absurd hi (by omega)⟩
  case round =>
    obtain ⟨k, hk, rfl, hbel, hall⟩ := hrel
    have x0 := (HX.out.below hbel.out HX.out.lt).cell 0
    simp only [List.getElem?_cons_zero] at x0
    by_cases hlt : k < n
    · rcases H1.out with hc | ⟨b1, o1, rfl, hb1, c1⟩
      · omega
      have hb1' := hb1 (by omega)
      obtain ⟨d1, d2, d3⟩ := c1 k hlt
      have d1 := (hbel.out.cell (p := ⟨b1, o1 + k * 3, none⟩) hb1').trans d1
      have d2 := (hbel.out.cell (p := ⟨b1, o1 + k * 3 + 1, none⟩) hb1').trans d2
      have d3 := (hbel.out.cell (p := ⟨b1, o1 + k * 3 + 2, none⟩) hb1').trans d3
      have hh := hid (HH.out k hlt hall.out)
      have HNX := hid (show ((l.getD k noRg).f == c) = false → ∀ i, i < k + 1 → ((l.getD i noRg).f == c) = false from fun he i hi => by
        rcases Nat.lt_or_ge i k with h | h
        · exact hall.out i h
        · obtain rfl : i = k := by omega
          exact he)
      clear c1
      generalize l.getD k noRg = r at d1 d2 d3 hh HNX
      obtain ⟨rf, rt, rv⟩ := r
      simp only at d1 d2 d3 hh HNX
      obtain ⟨b, hb⟩ : ∃ b, b = (rf == c) := ⟨_, rfl⟩
      rw [← hb] at hh HNX
      replace hb := hb.symm
      have HB2 := hid (hbel.out.alloc hbel.out.size (.cells #[.int .i64 rf, .int .i64 rt, .int .i64 rv] 55))
      cases b with
      | true =>
        have hr := hh.out rfl
        obtain ⟨y, hy⟩ : ∃ y, y = (rv == 0) := ⟨_, rfl⟩
        have hr2 : R = if y then [rt] else [rt, rv] := by rw [hy]; exact hr
        clear hr
        replace hy := hy.symm
        cases y with
        | true =>
          have HR := hid (show R = [rt] from hr2)
          clear hr2
          go_wp2_with (fail)
          go_ret
          exact ⟨_, rfl, by rw [HR.out]; exact lit_sl (by first | simp | rfl) rfl rfl (by simp), HB2.out.alloc HB2.out.size _⟩
        | false =>
          have HR := hid (show R = [rt, rv] from hr2)
          clear hr2
          go_wp2_with (fail)
          go_ret
          exact ⟨_, rfl, by rw [HR.out]; exact lit_sl (by first | simp | rfl) rfl rfl (by simp), HB2.out.alloc HB2.out.size _⟩
      | false =>
        have hr := hid (HNX.out rfl)
        go_wp2_with (fail)
        go_roundw
        case rel => exact ⟨k + 1, by omega, by go_num, HB2.out, hr.out⟩
        case measure => simp [intOf]; omega
    · obtain rfl : k = n := by omega
      have hr := hid (HN.out hall.out)
      go_wp2_with (fail)
      go_ret
      exact ⟨_, rfl, by rw [hr.out]; exact sl_nil _ _, hbel.out⟩
end Go.Proofs.Ytimbchkoomjhkaa

/-! Ref8 -/
namespace Go.Proofs.Ytimbchkoomjhkaa
open Go.RowKit

/-- what a number comes apart to at once -/
def stepS (k : Bool) (c : Int) : List Int := if (canonS c).isEmpty then (if k then mapS tabCompat c else []) else canonS c
def oneN (k : Bool) : Nat → Int → List Int
  | 0, c => [c]
  | n + 1, c => if (splitS c).isEmpty then (if (stepS k c).isEmpty then [c] else (stepS k c).flatMap (oneN k n)) else splitS c
/-- so many levels suffice -/
def deepB (k : Bool) : Nat → Int → Bool
  | 0, _ => false
  | n + 1, c => inI c && (!(splitS c).isEmpty || (stepS k c).all (deepB k n))
theorem oneN_len {k : Bool} (hs : ∀ c, (stepS k c).length ≤ 3) : ∀ (n : Nat) (c : Int), (oneN k n c).length ≤ 3 ^ n * 3
  | 0, c => by simp [oneN]
  | n + 1, c => by
    have ih := oneN_len hs n
    have hp : 1 ≤ 3 ^ (n + 1) := Nat.one_le_pow _ _ (by omega)
    rw [oneN]
    split
    · split
      · simp only [List.length_cons, List.length_nil]
        omega
      · have key : ∀ l : List Int, (l.flatMap (oneN k n)).length ≤ l.length * (3 ^ n * 3) := fun l => by
          induction l with
          | nil => simp
          | cons x l ihl =>
            rw [List.flatMap_cons, List.length_append, List.length_cons, Nat.succ_mul]
            have := ih x
            omega
        have h1 := key (stepS k c)
        have h2 := Nat.mul_le_mul_right (3 ^ n * 3) (hs c)
        rw [Nat.pow_succ]
        omega
    · have : (splitS c).length ≤ 3 := by
        unfold splitS partsN
        split
        · split <;> simp
        · simp
      omega
set_option maxRecDepth 100000 in
theorem compat_len3 : (tabCompat.all fun m => decide (m.t.length ≤ 3)) = true := by decide +kernel
theorem stepS_len (k : Bool) (c : Int) : (stepS k c).length ≤ 3 := by
  have h1 : (canonS c).length ≤ 3 := by
    unfold canonS rowS
    split
    · split
      · split <;> simp
      · simp
    · simp
  have key : ∀ l : List Mp, (l.all fun m => decide (m.t.length ≤ 3)) = true → (fndM c l).1.t.length ≤ 3 := fun l => by
    induction l with
    | nil => intro _; exact Nat.zero_le _
    | cons m l ih =>
      intro h
      simp only [List.all_cons, Bool.and_eq_true, decide_eq_true_eq] at h
      rw [fndM]
      split
      · exact h.1
      · exact ih h.2
  have h2 : (mapS tabCompat c).length ≤ 3 := by
    unfold mapS
    split
    · exact key _ compat_len3
    · simp
  unfold stepS
  split
  · split
    · exact h2
    · simp
  · exact h1

/-- what is asked of One at so many levels -/
def OneOk (k : Bool) (n : Nat) : Prop := ∀ (B : Nat) (c : Int) (w : World), TabsAt B w → deepB k n c = true →
  Calls Try.prog 40 #[.pointer (some ⟨B, 0, none⟩), .int .i64 c, .bool k] w fun e w' => ∃ x, e = .returned x ∧ Sl .i64 w' x (oneN k n c) ∧ Below w.heap.size w w'
def EachOk (k : Bool) (n : Nat) : Prop := ∀ (B : Nat) (v : Value) (s : List Int) (w : World), TabsAt B w → Sl .i64 w v s → (s.all (deepB k n)) = true → s.length * (3 ^ n * 3) ≤ 1000000000 →
  Calls Try.prog 34 #[.pointer (some ⟨B, 0, none⟩), v, .bool k] w fun e w' => ∃ x, e = .returned x ∧ Own .i64 3 w.heap.size w' x (s.flatMap (oneN k n)) ∧ Below w.heap.size w w'
theorem each_len (k : Bool) (n : Nat) : ∀ l : List Int, (l.flatMap (oneN k n)).length ≤ l.length * (3 ^ n * 3)
  | [] => by simp
  | x :: l => by
    have := oneN_len (stepS_len k) n x
    have ih := each_len k n l
    rw [List.flatMap_cons, List.length_append, List.length_cons, Nat.succ_mul]
    omega

set_option maxHeartbeats 4000000 in
theorem eachOk {k : Bool} {n : Nat} (h : OneOk k n) : EachOk k n := fun B v s w ht hs hd hl => by
  have HONE := hid h
  have HT := hid ht
  have HS := hid hs
  have HD := hid (fun i (hi : i < s.length) => (show deepB k n (s.getD i 0) = true from by
    have e : s.getD i 0 = s[i] := by rw [List.getD_eq_getElem?_getD, List.getElem?_eq_getElem hi]; rfl
    rw [e]
    exact List.all_eq_true.1 hd _ (List.getElem_mem hi)))
  have HL := hid hl
  have ml := hs.len
  obtain ⟨a1, cap1, rfl, q1, -, h1⟩ := hs
  obtain ⟨m, hm⟩ : ∃ m, m = s.length := ⟨_, rfl⟩
  have H1 := hid h1
  have HM := hid hm
  have HTK := hid (fun j (hj : j < s.length) => (show (s.take (j + 1)).flatMap (oneN k n) = (s.take j).flatMap (oneN k n) ++ oneN k n (s.getD j 0) from by
    have e : s.getD j 0 = s[j] := by rw [List.getD_eq_getElem?_getD, List.getElem?_eq_getElem hj]; rfl
    rw [e, List.take_succ_eq_append_getElem hj, List.flatMap_append]
    simp))
  have HFL := hid (fun j => (show ((s.take j).flatMap (oneN k n)).length ≤ 1000000000 from by
    have h2 := each_len k n (s.take j)
    have h3 : (s.take j).length * (3 ^ n * 3) ≤ s.length * (3 ^ n * 3) := Nat.mul_le_mul_right _ (by rw [List.length_take]; omega)
    omega))
  rw [← hm] at ml q1
  clear h ht hd hl h1
  obtain ⟨F, hF⟩ : ∃ F : Nat → List Int, F = fun j => (s.take j).flatMap (oneN k n) := ⟨_, rfl⟩
  have HF := hid hF
  have hFj : ∀ j, (s.take j).flatMap (oneN k n) = F j := fun j => by rw [hF]
  have hF0 : F 0 = [] := by rw [hF]; rfl
  have hFm : F m = s.flatMap (oneN k n) := by rw [hF, hm]; simp
  have HF0 := hid hF0
  have HFM := hid hFm
  have HTK2 := hid (fun j (hj : j < s.length) => (hFj (j + 1)).symm.trans ((HTK.out j hj).trans (by rw [hFj])))
  have HFL2 := hid (fun j => (show (F j).length ≤ 1000000000 from by rw [← hFj]; exact HFL.out j))
  clear hF hFj hF0 hFm
  rw [← hm]
  clear hm
  go_enter Try.func34, Try.ntmps34
  go_wp2_with (fail)
  go_loopw [7, 8] (fun lv iv wr => ∃ j : Nat, j ≤ m ∧ iv = .int .i64 j ∧ Hid (Own .i64 3 w.heap.size wr lv (F j)) ∧ Hid (Below w.heap.size w wr)) (fun _ iv _ => m - (intOf iv).toNat)
  case atStart => exact ⟨0, by omega, rfl, by show Own _ _ _ _ _ _; rw [HF0.out]; exact Own.nil _ _ _ _, Below.refl _ _⟩
  case round =>
    obtain ⟨j, hj, rfl, hown, hbel⟩ := hrel
    obtain ⟨al, cl, hal⟩ := hown.out.sl.form
    have hfl := HFL2.out j
    obtain ⟨nf, hnf⟩ : ∃ nf, nf = (F j).length := ⟨_, rfl⟩
    rw [← hnf] at hal hfl
    have HNF := hid hnf
    subst hal
    clear hnf
    by_cases hlt : j < m
    · rcases H1.out with hc | ⟨b1, o1, rfl, hb1, c1⟩
      · omega
      have hjs : j < s.length := by have := HM.out; omega
      have hb1' := hb1 (by omega)
      have d1 := (hbel.out.cell (p := ⟨b1, o1 + j, none⟩) hb1').trans (c1 j hjs)
      have hdj := HD.out j hjs
      have HNX := hid (HTK2.out j hjs)
      have hfn := HFL2.out (j + 1)
      clear c1 hb1 hjs
      generalize s.getD j 0 = x at d1 hdj HNX
      have HDJ := hid hdj
      have hlx : nf + (oneN k n x).length ≤ 1000000000 := by
        have h2 := congrArg List.length HNX.out
        rw [List.length_append] at h2
        have := HNF.out
        omega
      clear hdj hfn
      have HLX := hid hlx
      clear hlx
      have hsz := hbel.out.size
      go_wp2_with (first
        | (at_builtin; go_loud (refine wpList_app _ rfl _ _ 22 rfl .i64 w.heap.size 3 8 Try.underlying22 Try.infoI64 _ (F j) (oneN k n x) rfl (hown.out.below HB2.out) _ rfl HO2.out (by have := HLX.out; have := HNF.out; unfold maxLen; omega) (by have := HLX.out; have := HNF.out; omega) (by have := HB2.out.size; omega) ?_); intro v5 w5 ho5 hg5 hb5 hn5; clear hg5 hn5)
        | (go_at_call 40; refine (HONE.out B x wr (HT.out.below hbel.out) HDJ.out).mono ?_; rintro e w2 ⟨v2, rfl, ho2, hb2⟩; have HO2 := hid ho2; have HB2 := hid hb2; clear ho2 hb2))
      go_roundw
      case rel =>
        refine ⟨j + 1, by omega, by go_num, ?_, hbel.out.trans ((HB2.out.mono hsz).trans hb5)⟩
        show Own _ _ _ _ _ _
        rw [HNX.out]
        exact ho5
      case measure => simp [intOf]; omega
    · obtain rfl : j = m := by omega
      go_wp2_with (fail)
      go_ret
      exact ⟨_, rfl, by rw [← HFM.out]; have h := hown.out; exact h, hbel.out⟩

set_option maxHeartbeats 4000000 in
theorem oneOk {k : Bool} {n : Nat} (h : EachOk k n) (hn : 3 ^ n * 3 ≤ 100000000) : OneOk k (n + 1) := fun B c w ht hd => by
  have HEACH := hid h
  have HT := hid ht
  have hlen3 := stepS_len k c
  rw [deepB, Bool.and_eq_true] at hd
  obtain ⟨hi, hd⟩ := hd
  obtain ⟨i0, i1⟩ := of_decide_eq_true hi
  have HSP := hid (fun w => refSplit7 c w i0 i1)
  clear h ht hi
  by_cases hsp : splitS c = []
  · rw [hsp] at HSP hd
    have hone : oneN k (n + 1) c = if (stepS k c).isEmpty then [c] else (stepS k c).flatMap (oneN k n) := by rw [oneN, hsp]; rfl
    have hd2 : ((stepS k c).all (deepB k n)) = true := by simpa using hd
    have HD := hid hd2
    have HLN := hid (show (stepS k c).length * (3 ^ n * 3) ≤ 1000000000 from Nat.le_trans (Nat.mul_le_mul_right _ hlen3) (by omega))
    have HCA := hid (fun w h => refTCanon B c w h)
    have HCO := hid (fun w h => refTCompat B c w h)
    obtain ⟨lc, hlc⟩ : ∃ l, l = canonS c := ⟨_, rfl⟩
    have hst : stepS k c = if lc.isEmpty then (if k then mapS tabCompat c else []) else lc := by rw [hlc]; rfl
    rw [← hlc] at HCA
    clear hd hd2 hsp hlen3 hlc
    cases lc with
    | cons x0 l0 =>
      have hs2 : stepS k c = x0 :: l0 := hst
      rw [hs2] at hone HD HLN
      have HONE := hid (show oneN k (n + 1) c = (x0 :: l0).flatMap (oneN k n) from hone)
      obtain ⟨l, hl⟩ : ∃ l, l = x0 :: l0 := ⟨_, rfl⟩
      have hlp : 0 < l.length := by rw [hl]; simp
      rw [← hl] at HONE HD HLN HCA
      obtain ⟨m, hm⟩ : ∃ m, m = l.length := ⟨_, rfl⟩
      rw [← hm] at hlp
      have HM := hid hm
      have hm0 : ((m : Int) == 0) = false := beq_eq_false_iff_ne.2 (by omega)
      clear hst hs2 hone hl hm
      go_enter Try.func40, Try.ntmps40
      go_wp2_with (first
        | (go_at_call 68; refine (HSP.out _).mono ?_; rintro e w1 ⟨v1, rfl, ho1, hb1⟩; obtain ⟨a1, c1, rfl⟩ := ho1.form; have HB1 := hid hb1; clear ho1 hb1)
        | (go_at_call 69; refine (HCA.out w1 (HT.out.below HB1.out)).mono ?_; rintro e w2 ⟨v2, rfl, ho2, hb2⟩; obtain ⟨a2, c2, hv2⟩ := ho2.form; rw [← HM.out] at hv2; subst hv2; have HO2 := hid ho2; have HB2 := hid (HB1.out.trans (hb2.mono HB1.out.size)); clear ho2 hb2)
        | (go_at_call 34; refine (HEACH.out B _ l w2 (HT.out.below HB2.out) HO2.out HD.out HLN.out).mono ?_; rintro e w3 ⟨v3, rfl, ho3, hb3⟩; have HO3 := hid ho3; have HB3 := hid (HB2.out.trans (hb3.mono HB2.out.size)); clear ho3 hb3))
      go_ret
      exact ⟨_, rfl, by rw [HONE.out]; exact HO3.out.sl, HB3.out⟩
    | nil =>
      cases k with
      | false =>
        have hs2 : stepS false c = [] := hst
        have HONE := hid (show oneN false (n + 1) c = [c] by rw [hone, hs2]; rfl)
        clear hst hs2 hone
        go_enter Try.func40, Try.ntmps40
        go_wp2_with (first
          | (go_at_call 68; refine (HSP.out _).mono ?_; rintro e w1 ⟨v1, rfl, ho1, hb1⟩; obtain ⟨a1, c1, rfl⟩ := ho1.form; have HB1 := hid hb1; clear ho1 hb1)
          | (go_at_call 69; refine (HCA.out w1 (HT.out.below HB1.out)).mono ?_; rintro e w2 ⟨v2, rfl, ho2, hb2⟩; obtain ⟨a2, c2, rfl⟩ := ho2.form; have HB2 := hid (HB1.out.trans (hb2.mono HB1.out.size)); clear ho2 hb2))
        go_ret
        exact ⟨_, rfl, by rw [HONE.out]; exact lit_sl (by first | simp | rfl) rfl rfl (by simp), HB2.out.alloc HB2.out.size _⟩
      | true =>
        have hs2 : stepS true c = mapS tabCompat c := hst
        rw [hs2] at hone HD HLN
        obtain ⟨l, hl⟩ : ∃ l, l = mapS tabCompat c := ⟨_, rfl⟩
        rw [← hl] at hone HD HLN HCO
        obtain ⟨m, hm⟩ : ∃ m, m = l.length := ⟨_, rfl⟩
        have HM := hid hm
        obtain ⟨z, hz⟩ : ∃ z, z = ((m : Int) == 0) := ⟨_, rfl⟩
        have HZ := hid hz
        replace hz := hz.symm
        clear hst hs2 hl hm
        cases z with
        | true =>
          have HONE := hid (show oneN true (n + 1) c = [c] by
            have h1 := eq_of_beq HZ.out.symm
            have h2 := HM.out
            rw [hone, List.eq_nil_of_length_eq_zero (l := l) (by omega)]
            rfl)
          clear hone
          go_enter Try.func40, Try.ntmps40
          go_wp2_with (first
            | (go_at_call 68; refine (HSP.out _).mono ?_; rintro e w1 ⟨v1, rfl, ho1, hb1⟩; obtain ⟨a1, c1, rfl⟩ := ho1.form; have HB1 := hid hb1; clear ho1 hb1)
            | (go_at_call 69; refine (HCA.out w1 (HT.out.below HB1.out)).mono ?_; rintro e w2 ⟨v2, rfl, ho2, hb2⟩; obtain ⟨a2, c2, rfl⟩ := ho2.form; have HB2 := hid (HB1.out.trans (hb2.mono HB1.out.size)); clear ho2 hb2)
            | (go_at_call 70; refine (HCO.out w2 (HT.out.below HB2.out)).mono ?_; rintro e w3 ⟨v3, rfl, ho3, hb3⟩; obtain ⟨a3, c3, hv3⟩ := ho3.form; rw [← HM.out] at hv3; subst hv3; have HB3 := hid (HB2.out.trans (hb3.mono HB2.out.size)); clear ho3 hb3))
          go_ret
          exact ⟨_, rfl, by rw [HONE.out]; exact lit_sl (by first | simp | rfl) rfl rfl (by simp), HB3.out.alloc HB3.out.size _⟩
        | false =>
          have HONE := hid (show oneN true (n + 1) c = l.flatMap (oneN true n) by
            have h1 := HZ.out.symm
            rw [beq_eq_false_iff_ne] at h1
            have h2 := HM.out
            cases l with
            | nil => simp at h2; omega
            | cons x l => exact hone)
          clear hone
          go_enter Try.func40, Try.ntmps40
          go_wp2_with (first
            | (go_at_call 68; refine (HSP.out _).mono ?_; rintro e w1 ⟨v1, rfl, ho1, hb1⟩; obtain ⟨a1, c1, rfl⟩ := ho1.form; have HB1 := hid hb1; clear ho1 hb1)
            | (go_at_call 69; refine (HCA.out w1 (HT.out.below HB1.out)).mono ?_; rintro e w2 ⟨v2, rfl, ho2, hb2⟩; obtain ⟨a2, c2, rfl⟩ := ho2.form; have HB2 := hid (HB1.out.trans (hb2.mono HB1.out.size)); clear ho2 hb2)
            | (go_at_call 70; refine (HCO.out w2 (HT.out.below HB2.out)).mono ?_; rintro e w3 ⟨v3, rfl, ho3, hb3⟩; obtain ⟨a3, c3, hv3⟩ := ho3.form; rw [← HM.out] at hv3; subst hv3; have HO3 := hid ho3; have HB3 := hid (HB2.out.trans (hb3.mono HB2.out.size)); clear ho3 hb3)
            | (go_at_call 34; refine (HEACH.out B _ l w3 (HT.out.below HB3.out) HO3.out HD.out HLN.out).mono ?_; rintro e w4 ⟨v4, rfl, ho4, hb4⟩; have HO4 := hid ho4; have HB4 := hid (HB3.out.trans (hb4.mono HB3.out.size)); clear ho4 hb4))
          go_ret
          exact ⟨_, rfl, by rw [HONE.out]; exact HO4.out.sl, HB4.out⟩
  · have HONE := hid (show oneN k (n + 1) c = splitS c by
      rw [oneN]
      cases hq : splitS c with
      | nil => exact absurd hq hsp
      | cons x l => rfl)
    obtain ⟨l, hl⟩ : ∃ l, l = splitS c := ⟨_, rfl⟩
    rw [← hl] at hsp HSP HONE
    have hlp : 0 < l.length := List.length_pos_iff.2 hsp
    obtain ⟨m, hm⟩ : ∃ m, m = l.length := ⟨_, rfl⟩
    rw [← hm] at hlp
    have HM := hid hm
    clear hd hsp hl hm hlen3
    go_enter Try.func40, Try.ntmps40
    go_wp2_with (first
      | (go_at_call 68; refine (HSP.out _).mono ?_; rintro e w1 ⟨v1, rfl, ho1, hb1⟩; obtain ⟨a1, c1, hv1⟩ := ho1.form; rw [← HM.out] at hv1; subst hv1; have HO1 := hid ho1; have HB1 := hid hb1; clear ho1 hb1))
    go_ret
    exact ⟨_, rfl, by rw [HONE.out]; exact HO1.out, HB1.out⟩
end Go.Proofs.Ytimbchkoomjhkaa
