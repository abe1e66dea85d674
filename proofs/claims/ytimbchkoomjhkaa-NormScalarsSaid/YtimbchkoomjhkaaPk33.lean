/- Several texts in one: Nrm11a, Nrm11b, App2. -/
import Derived.Test.YtimbchkoomjhkaaPk18
import Derived.Test.YtimbchkoomjhkaaPk22
import Derived.Test.YtimbchkoomjhkaaPk26
import Derived.Test.YtimbchkoomjhkaaPk32
import Derived.Test.YtimbchkoomjhkaaPk1
import Derived.Deep.AppendLies
/-! Nrm11a -/
namespace Go.Proofs.Ytimbchkoomjhkaa
open Go.RowKit

set_option maxHeartbeats 1000000 in
theorem slicesEqual (v1 v2 : Value) (xs ys : List Int) (w : World) (h1 : Sl .i64 w v1 xs) (h2 : Sl .i64 w v2 ys) :
    Calls Try.prog 44 #[v1, v2] w fun e w' => e = .returned (.bool (eqL xs ys)) ∧ Below w.heap.size w w' := by
  have m1 := h1.len
  have m2 := h2.len
  obtain ⟨a1, cap1, rfl, q1, -, h1⟩ := h1
  obtain ⟨a2, cap2, rfl, q2, -, h2⟩ := h2
  have key : Calls Try.prog 44 #[.slice a1 xs.length cap1, .slice a2 ys.length cap2] w fun e w' => e = .returned (.bool (eqL xs ys)) ∧ ∃ n, w' = w.drewN n := by
    by_cases hne : xs.length = ys.length
    · rcases Nat.eq_zero_or_pos xs.length with h0 | h0
      · have hx : xs = [] := List.eq_nil_of_length_eq_zero h0
        have hy : ys = [] := List.eq_nil_of_length_eq_zero (by omega)
        subst hx hy
        clear h1 h2 hne h0
        simp only [List.length_nil]
        go_enter Try.func44, Try.ntmps44
        go_wp2
        go_loopw [13] (fun i wr => i = .int .i64 0 ∧ wr = w) (fun i _ => 0)
        case atStart => exact ⟨rfl, rfl⟩
        case round =>
          obtain ⟨rfl, rfl⟩ := hrel
          go_wp2
          go_ret
          exact ⟨rfl, 0, rfl⟩
      · rcases h1 with hc | ⟨b1, o1, rfl, hb1, c1⟩
        · omega
        rcases h2 with hc | ⟨b2, o2, rfl, hb2, c2⟩
        · omega
        rw [← hne] at c2 ⊢
        have HN := hid hne
        obtain ⟨len, hlen⟩ : ∃ len, len = xs.length := ⟨_, rfl⟩
        clear q1 q2
        rw [← hlen] at c1 c2 m1 h0 ⊢
        have HL := hid hlen
        clear hlen m2 hne
        have C1 := hid c1
        have C2 := hid c2
        clear c1 c2 hb1 hb2
        go_enter Try.func44, Try.ntmps44
        go_wp2
        go_loopw [13] (fun i wr => ∃ k n : Nat, k ≤ len ∧ i = .int .i64 k ∧ wr = w.drewN n ∧ Hid (∀ i, i < k → xs.getD i 0 = ys.getD i 0)) (fun i _ => len - (intOf i).toNat)
        case atStart => exact ⟨0, 0, by omega, rfl, rfl, fun i hi => absurd hi (by omega)⟩
        case round =>
          obtain ⟨k, n, hk, rfl, rfl, hall⟩ := hrel
          by_cases hlt : k < len
          · have d1 := C1.out k hlt
            have d2 := C2.out k hlt
            go_wp2
            go_quiet (fail)
            go_wp2
            · have ht : (xs[k]?.getD 0 != ys[k]?.getD 0) = true := by assumption
              go_ret
              refine ⟨ret_bool ?_, drewN_ex _ _ _⟩
              have : xs ≠ ys := by rintro rfl; simp at ht
              simp [eqL, this]
            · have ht : (xs[k]?.getD 0 != ys[k]?.getD 0) = false := by assumption
              go_roundw
              case rel =>
                refine ⟨k + 1, _, by omega, by go_num, rfl, fun i hi => ?_⟩
                rcases Nat.lt_or_ge i k with h | h
                · exact hall.out i h
                · obtain rfl : i = k := by omega
                  simpa [List.getD_eq_getElem?_getD] using ht
              case measure => simp [intOf]; omega
          · go_wp2
            go_ret
            refine ⟨ret_bool ?_, n, rfl⟩
            exact (eqL_iff.2 (ext_getD HN.out fun i hi => hall.out i (by rw [← HL.out] at hi; omega))).symm
    · have hf : eqL xs ys = false := by
        have : xs ≠ ys := by rintro rfl; exact hne rfl
        simp [eqL, this]
      rw [hf]
      clear hf h1 h2 q1 q2
      have ht : ((xs.length : Int) != (ys.length : Int)) = true := by simp; omega
      clear hne
      generalize xs.length = l1 at ht m1 ⊢
      generalize ys.length = l2 at ht m2 ⊢
      go_enter Try.func44, Try.ntmps44
      go_wp2
      go_ret
      exact ⟨rfl, 0, rfl⟩
  refine key.mono ?_
  rintro e w' ⟨he, n, rfl⟩
  exact ⟨he, below_drewN n⟩

set_option maxHeartbeats 1000000 in
theorem normApart : NApartOk := fun k v s w h hf => by
  have H1 := hid (allDec k v s w h hf.1 hf.2.1)
  have H2 := hid (fun v w h => orderPut v (allS k s) w h hf.2.2)
  obtain ⟨A, hA⟩ : ∃ A, A = apartS k s := ⟨_, rfl⟩
  rw [← hA]
  rw [show putG classS (allS k s) = A from hA.symm] at H2
  generalize allS k s = D at H1 H2
  clear hA h hf
  go_enter Try.func14, Try.ntmps14
  go_wp2_with (first
    | (go_at_call 32; refine H1.out.mono ?_; rintro e w1 ⟨v1, rfl, ho1, hb1⟩; have HO1 := hid ho1.sl; have HB1 := hid hb1; clear ho1 hb1)
    | (go_at_call 31; refine (H2.out v1 _ HO1.out).mono ?_; rintro e w2 ⟨v2, rfl, ho2, hb2⟩; have HO2 := hid (ho2.mono HB1.out.size); have HB2 := hid (HB1.out.trans (hb2.mono HB1.out.size)); clear ho2 hb2))
  go_ret
  exact ⟨_, rfl, HO2.out, HB2.out⟩
set_option maxHeartbeats 1000000 in
theorem normForm : NFormOk := fun k v s w h hf => by
  have H1 := hid (normApart k v s w h hf)
  have H2 := hid (fun v w h => compAll v (apartS k s) w h (apart_inI hf.1) (by rw [apart_len]; exact hf.2.2))
  obtain ⟨F, hF⟩ : ∃ F, F = formS k s := ⟨_, rfl⟩
  rw [← hF]
  rw [show compG classS twoS (apartS k s) = F from hF.symm] at H2
  generalize apartS k s = A at H1 H2
  clear hF h hf
  go_enter Try.func16, Try.ntmps16
  go_wp2_with (first
    | (go_at_call 14; refine H1.out.mono ?_; rintro e w1 ⟨v1, rfl, ho1, hb1⟩; have HO1 := hid ho1.sl; have HB1 := hid hb1; clear ho1 hb1)
    | (go_at_call 35; refine (H2.out v1 _ HO1.out).mono ?_; rintro e w2 ⟨v2, rfl, ho2, hb2⟩; have HO2 := hid (ho2.mono HB1.out.size); have HB2 := hid (HB1.out.trans (hb2.mono HB1.out.size)); clear ho2 hb2))
  go_ret
  exact ⟨_, rfl, HO2.out, HB2.out⟩
set_option maxHeartbeats 1000000 in
theorem normSame : NSameOk := fun k va vb a b w ha hb hfa hfb => by
  have H1 := hid (normForm k va a w ha hfa)
  have H2 := hid (fun w h => normForm k vb b w h hfb)
  have HSB := hid hb
  generalize formS k a = A at H1 ⊢
  generalize formS k b = B at H2 ⊢
  have H3 := hid (fun v1 v2 w h1 h2 => slicesEqual v1 v2 A B w h1 h2)
  clear ha hb hfa hfb
  go_enter Try.func19, Try.ntmps19
  go_wp2_with (first
    | (go_at_call 44; refine (H3.out v1 v2 _ HO1.out HO2.out).mono ?_; rintro e w3 ⟨rfl, hb3⟩; have HB3 := hid (HB2.out.trans (hb3.mono HB2.out.size)); clear hb3)
    | (have _u := HB1; clear _u; go_at_call 16; refine (H2.out _ (HSB.out.below HB1.out)).mono ?_; rintro e w2 ⟨v2, rfl, ho2, hb2⟩; replace HO1 := hid (HO1.out.below hb2); have HO2 := hid ho2.sl; have HB2 := hid (HB1.out.trans (hb2.mono HB1.out.size)); clear ho2 hb2)
    | (go_at_call 16; refine H1.out.mono ?_; rintro e w1 ⟨v1, rfl, ho1, hb1⟩; have HO1 := hid ho1.sl; have HB1 := hid hb1; clear ho1 hb1))
  go_ret
  exact ⟨rfl, HB3.out⟩
set_option maxHeartbeats 1000000 in
theorem normDecomposed (k : Bool) (v : Value) (s : List Int) (w : World) (h : Sl .i64 w v s) (hi : s.all inI = true) (hl : s.length ≤ 1000000) :
    Calls Try.prog 36 #[v, .bool k] w fun e w' => e = .returned (.bool (eqL (allS k s) s)) ∧ Below w.heap.size w w' := by
  have H1 := hid (allDec k v s w h hi hl)
  have HS := hid h
  generalize allS k s = D at H1 ⊢
  have H3 := hid (fun v1 v2 w h1 h2 => slicesEqual v1 v2 D s w h1 h2)
  clear h hi hl
  go_enter Try.func36, Try.ntmps36
  go_wp2_with (first
    | (go_at_call 32; refine H1.out.mono ?_; rintro e w1 ⟨v1, rfl, ho1, hb1⟩; have HO1 := hid ho1.sl; have HS1 := hid (HS.out.below hb1); have HB1 := hid hb1; clear ho1 hb1)
    | (go_at_call 44; refine (H3.out v1 v _ HO1.out HS1.out).mono ?_; rintro e w3 ⟨rfl, hb3⟩; have HB3 := hid (HB1.out.trans (hb3.mono HB1.out.size)); clear hb3))
  go_ret
  exact ⟨rfl, HB3.out⟩
end Go.Proofs.Ytimbchkoomjhkaa

/-! Nrm11b -/
namespace Go.Proofs.Ytimbchkoomjhkaa
open Go.RowKit

/-- the first numbers of the rows whose second one is c -/
def frL (l : List Rg) (c : Int) : List Int := (l.filter fun r => r.v == c && c != 0).map fun r => r.t
theorem frL_nil (c : Int) : frL [] c = [] := rfl
theorem frL_snoc (l : List Rg) (r : Rg) (c : Int) : frL (l ++ [r]) c = frL l c ++ (if r.v = c ∧ c ≠ 0 then [r.t] else []) := by
  unfold frL
  rw [List.filter_append, List.map_append]
  by_cases h : r.v = c ∧ c ≠ 0
  · simp [h.1, h.2]
  · rw [if_neg h]
    have : (r.v == c && c != 0) = false := by
      rw [Bool.eq_false_iff]
      intro e
      simp only [Bool.and_eq_true, beq_iff_eq, bne_iff_ne] at e
      exact h e
    simp [this]
theorem frL_len (l : List Rg) (c : Int) : (frL l c).length ≤ l.length := by
  unfold frL
  rw [List.length_map]
  exact List.length_filter_le _ _
theorem frL_in {l : List Rg} (h : ∀ r ∈ l, inI r.t = true) (c : Int) : (frL l c).all inI = true := by
  rw [List.all_eq_true]
  intro x hx
  obtain ⟨r, hr, rfl⟩ := List.mem_map.1 hx
  exact h r (List.mem_filter.1 hr).1
/-- whether a pair of these numbers has a composite -/
def pairB (c t : Int) : Bool := (pairS t c).2
def secB (c : Int) : Bool := (frL tabCanon c).any (pairB c)
def laterB (c : Int) : Bool := decide (4449 ≤ c ∧ c ≤ 4469) || decide (4520 ≤ c ∧ c ≤ 4546)
def moveB (c : Int) : Bool := (classS c != 0 || laterB c) || secB c
theorem sec_eq (c : Int) : secB c = secondB c := by
  unfold secB frL secondB pairB
  rw [Bool.eq_iff_iff, List.any_eq_true, List.any_eq_true]
  constructor
  · rintro ⟨t, ht, hp⟩
    obtain ⟨r, hr, rfl⟩ := List.mem_map.1 ht
    obtain ⟨hr1, hr2⟩ := List.mem_filter.1 hr
    simp only [Bool.and_eq_true, beq_iff_eq, bne_iff_ne] at hr2
    have hf := fndS_true (p := fun x : Rg => x.t == r.t && x.v == c) (l := tabPair) hp
    obtain ⟨h1, h2⟩ := hf
    simp only [Bool.and_eq_true, beq_iff_eq] at h2
    refine ⟨_, (List.mem_filter.1 h1).1, ?_⟩
    simp only [Bool.and_eq_true, beq_iff_eq, bne_iff_ne]
    refine ⟨h2.2, hr2.2, ?_, ?_⟩
    · rw [h2.1]; exact hp
    · rw [h2.1]; rfl
  · rintro ⟨r, hr, hp⟩
    simp only [Bool.and_eq_true, beq_iff_eq, bne_iff_ne] at hp
    refine ⟨r.t, List.mem_map.2 ⟨r, List.mem_filter.2 ⟨hr, ?_⟩, rfl⟩, hp.2.2.1⟩
    simp only [Bool.and_eq_true, beq_iff_eq, bne_iff_ne]
    exact ⟨hp.1, hp.2.1⟩
theorem flat_iff {o : Int → List Int} (ho : ∀ c, o c ≠ []) : ∀ s : List Int, s.flatMap o = s ↔ ∀ c ∈ s, o c = [c]
  | [] => by simp
  | c :: s => by
    have hl : ∀ s : List Int, s.length ≤ (s.flatMap o).length := fun s => by
      induction s with
      | nil => simp
      | cons x s ih =>
        rw [List.flatMap_cons, List.length_append, List.length_cons]
        have := List.length_pos_iff.2 (ho x)
        omega
    have ih := flat_iff ho s
    rw [List.flatMap_cons]
    obtain ⟨d, r, hd⟩ : ∃ d r, o c = d :: r := List.exists_cons_of_ne_nil (ho c)
    rw [hd, List.cons_append, List.cons.injEq]
    constructor
    · rintro ⟨rfl, h⟩
      have h1 := congrArg List.length h
      rw [List.length_append] at h1
      have h2 := hl s
      obtain rfl : r = [] := List.eq_nil_of_length_eq_zero (by omega)
      intro x hx
      rcases List.mem_cons.1 hx with rfl | hx
      · exact hd
      · exact (ih.1 h) x hx
    · intro h
      have h1 := h c (by simp)
      rw [hd, List.cons.injEq] at h1
      obtain ⟨rfl, rfl⟩ := h1
      exact ⟨rfl, ih.2 fun x hx => h x (List.mem_cons_of_mem _ hx)⟩
theorem quick_eq (k : Bool) (s : List Int) : (eqL (allS k s) s && !s.any moveB) = quickS k s := by
  unfold quickS
  rw [Bool.eq_iff_iff, Bool.and_eq_true, eqL_iff, List.all_eq_true, Bool.not_eq_true', List.any_eq_false]
  rw [show allS k s = s.flatMap (oneS k) from rfl, flat_iff (o := oneS k) (fun c => one_ne 4 c)]
  have hq : ∀ c, quickB k c = true ↔ oneS k c = [c] ∧ ¬ moveB c = true := fun c => by
    unfold quickB moveB laterB
    rw [sec_eq]
    simp only [Bool.and_eq_true, Bool.not_eq_true', Bool.or_eq_true, beq_iff_eq, bne_iff_ne, not_or, Bool.or_eq_false_iff, Bool.not_eq_true, ne_eq, Decidable.not_not]
    constructor
    · rintro ⟨⟨h1, h2⟩, ⟨h3, h4⟩, h5⟩
      exact ⟨h1, ⟨h2, h3, h4⟩, h5⟩
    · rintro ⟨h1, ⟨h2, h3, h4⟩, h5⟩
      exact ⟨⟨h1, h2⟩, ⟨h3, h4⟩, h5⟩
  constructor
  · rintro ⟨h1, h2⟩ c hc
    exact (hq c).2 ⟨h1 c hc, h2 c hc⟩
  · intro h
    exact ⟨fun c hc => ((hq c).1 (h c hc)).1, fun c hc => ((hq c).1 (h c hc)).2⟩
end Go.Proofs.Ytimbchkoomjhkaa

/-! App2 -/
namespace Go.Proofs.Ytimbchkoomjhkaa
open Go.RowKit

/-- two rows lie in different blocks -/
def Apt (u v : Value) : Prop := ∀ b, u.ownBlock = some b → v.ownBlock ≠ some b
theorem Apt.turn {u v : Value} (h : Apt u v) : Apt v u := fun b h1 h2 => h b h2 h1
theorem wpList_appI {P : Program} (w : World) {ops : Array Oper} {rest : List Oper} {o : Oper} {a : Act} {Q : Exit → Act → World → Prop} (hgd : o.guard = none) (s x : Operand) (t : TypeId)
    (ho : o.op = .call { callee := .builtin .append, args := #[s, x], argTypes := #[t, t] }) (k : IntKind)
    (base e : Nat) (bytes : Nat) (ht : P.underlying t = some (.slice e)) (hinfo : (P.info? e).map (fun i => (i.zero, i.size, i.bytes)) = some (some (.int k 0), 1, bytes))
    (v : Value) (xs ys : List Int) (hs : a.eval s = v) (hown : Own k e base w v xs) (u : Value) (hx : a.eval x = u) (hu : Sl k w u ys) (hy : 0 < ys.length)
    (h63 : xs.length + ys.length ≤ maxLen) (hbytes : (xs.length + ys.length) * bytes ≤ 140737488355328) (hbase : base ≤ w.heap.size)
    (h : ∀ g cap w', Own k e base w' (.slice (some ⟨g, 0, none⟩) (xs.length + ys.length) cap) (xs ++ ys) → w.grownBy w' v.ownBlock → Below base w w' →
      (∀ z zs, Own k e base w z zs → Apt v z → Own k e base w' z zs ∧ Apt (.slice (some ⟨g, 0, none⟩) (xs.length + ys.length) cap) z) → wpList P ops Q rest (a.put o.dst (.slice (some ⟨g, 0, none⟩) (xs.length + ys.length) cap)) w') : wpList P ops Q (o :: rest) a w := by
  obtain ⟨i, hi, hz0, hz1, hz2⟩ := info_parts hinfo
  obtain ⟨ao, cap, rfl, hl, hm, hu⟩ := hu
  rcases hu with rfl | ⟨b, off, rfl, hbb, hc⟩
  · omega
  · refine wpList_append_lies w hgd s x t ho base e i (.int k 0) 1 bytes ht hi hz0 hz1 hz2 rfl (by decide) v xs.length (xs.map (Value.int k)) hs hown ⟨b, off, none⟩ ys.length cap (ys.map (Value.int k)) hx (by simp) ?_ (ints_oneCell k ys) hy h63 hbytes hbase w.heap.size rfl ?_
    · intro j u hj
      rw [List.getElem?_map] at hj
      have hadd : (⟨b, off, none⟩ : Addr).add j = ⟨b, off + j, none⟩ := by unfold Addr.add; split <;> simp_all
      rcases Nat.lt_or_ge j ys.length with hjl | hjl
      · rw [hadd, hc j hjl, ← hj, List.getD_eq_getElem?_getD, List.getElem?_eq_getElem hjl]; rfl
      · rw [List.getElem?_eq_none hjl] at hj; cases hj
    · intro g cap' w' hown' hg hgg hlt
      refine h g cap' w' (by simpa [Own] using hown') hg ((Below.refl base w).grown hg hbase (fun k hk => (World.ownsRow.lt hown k hk).1)) fun z zs hz hap => ⟨?_, ?_⟩
      · refine World.ownsRow.kept hz hg ?_
        cases hb : z.ownBlock with
        | none => exact .inl rfl
        | some c => exact .inr fun hrow => hap c hrow.symm hb
      · intro c hc1 hc2
        have : g = c := by simpa [Value.ownBlock] using hc1
        subst this
        rcases hgg with hgg | hgg
        · exact hap _ hgg hc2
        · have := hz.lt' g hc2
          omega
theorem Apt.nil (v : Value) : Apt (.slice none 0 0) v := fun b h => by simp [Value.ownBlock] at h
end Go.Proofs.Ytimbchkoomjhkaa
