/- Several texts in one: LawAccents18. -/
import Derived.Test.YtobicndpkojgiaaPk34
import Derived.Test.YtobicndpkojgiaaPk33
import Derived.Test.YtobicndpkojgiaaPk16
import Derived.Test.YtobicndpkojgiaaPk35
import Derived.Test.YtobicndpkojgiaaPk20
import Derived.Test.YtobicndpkojgiaaPk21
import Derived.Test.YtobicndpkojgiaaPk15
import Derived.Test.YtobicndpkojgiaaPk37
import Derived.Test.YtobicndpkojgiaaPk38
/-! LawAccents18 -/
namespace Go.Proofs.Ytobicndpkojgiaa
open Go.RowKit

theorem rep_snoc (n : Nat) (x : Int) : List.replicate (n + 1) x = List.replicate n x ++ [x] := List.replicate_succ'
theorem ixn18 (x m : Int) (h0 : 0 < m) (h1 : m ≤ 1000000) : ∃ K : Nat, wrap64 ((IntKind.u64.wrap x).tmod m) = (K : Int) ∧ (K : Int) < m := by
  obtain ⟨K, h2, h3, h4⟩ := ix_rem x m h0 (by omega)
  exact ⟨K.toNat, by rw [h2]; omega, by omega⟩
theorem accs_len : tabAccents.length = 13 := rfl
/-- numbers of the call's own stay while numbers of another kind are appended -/
theorem Own.leavesN {k k' : IntKind} {e e' base base' : Nat} {w w' : World} {v u : Value} {l xs : List Int} (h : Own k e base w v l) (ho : Own k' e' base' w u xs) (ht : e ≠ e') (hg : w.grownBy w' v.ownBlock) : Own k' e' base' w' u xs := by
  refine World.ownsRow.kept ho hg ?_
  rcases h.2 with ⟨rfl, hn⟩ | ⟨g, cap, cur, rfl, hb, hh, -⟩
  · cases hu : u.ownBlock with
    | none => exact .inl rfl
    | some c => exact .inr (by simp [Value.ownBlock])
  · cases hu : u.ownBlock with
    | none => exact .inl rfl
    | some c =>
      refine .inr fun e1 => ho.other (t := e) (cs := cur.toList) (B := g) (by unfold Box; rw [hh]) ht ?_
      rw [hu]
      exact e1.symm
/-- what is asked of Read once more: its scalars are new memory -/
def TReadOwn : Prop := ∀ (v : Value) (b : List Int) (w : World), Sl .u8 w v b → U8 b → b.length ≤ 100000 → Calls Try.prog 13 #[v] w fun e w' => ∃ x, e = .returned (.tuple #[x, .int .i64 (r3At (read18 b)), .int .i64 (r3E (read18 b))]) ∧ Own .i64 3 w.heap.size w' x (r3L (read18 b)) ∧ Below w.heap.size w w'
theorem TReadOwn.ok (H : TReadOwn) : TReadOk := fun v b w h hu hl => (H v b w h hu hl).mono fun e w' h => by
  obtain ⟨x, h1, h2, h3⟩ := h
  exact ⟨x, h1, h2.sl, h3⟩
def readO (base : Nat) (xs : List Int) (at_ e : Int) : Fact := ⟨fun v w => ∃ x, v = .tuple #[x, .int .i64 at_, .int .i64 e] ∧ Own .i64 3 base w x xs, fun _ _ _ ⟨x, h1, h2⟩ hb => ⟨x, h1, h2.below hb⟩⟩
def AccL (W : World) (N : Nat) (bv tv : Value) (wr : World) : Prop := ∃ (k : Nat) (ba ta : Option Addr) (bc tc : Nat), k ≤ N ∧ bv = .slice ba k bc ∧ tv = .slice ta k tc ∧ Own .u8 5 W.heap.size wr (.slice ba k bc) (List.replicate k 120) ∧ Own .i64 3 W.heap.size wr (.slice ta k tc) (List.replicate k 120) ∧ Below W.heap.size W wr
set_option maxRecDepth 20000 in
set_option maxHeartbeats 8000000 in
theorem walkAccents18 (HR : TReadOwn) (HP : TPutOk) (HH : THasOk) (at_ c nn : Int) (w : World) :
    Calls Try.prog 7 #[.int .i64 at_, .int .i64 c, .int .i64 nn] w fun e w' => e = .returned (.bool true) ∧ Below w.heap.size w w' := by
  have HW := hid (fun w => lawWakes18 HR.ok HP HH w)
  obtain ⟨K, hK, hK1, hK2⟩ := ix_rem at_ 13 (by omega) (by omega)
  obtain ⟨j, rfl⟩ : ∃ j : Nat, K = (j : Int) := ⟨K.toNat, by omega⟩
  obtain ⟨K6, hK6, hK61, hK62⟩ := ix_rem c 26 (by omega) (by omega)
  obtain ⟨k1, rfl⟩ : ∃ j : Nat, K6 = (j : Int) := ⟨K6.toNat, by omega⟩
  obtain ⟨k2, hk2, hk20⟩   := ixn18 ((IntKind.u64.wrap c).tdiv 26) 2 (by decide) (by decide)
  obtain ⟨K8, hK8, hK81, hK82⟩ := ix_rem nn 20 (by omega) (by omega)
  obtain ⟨N, rfl⟩ : ∃ j : Nat, K8 = (j : Int) := ⟨K8.toNat, by omega⟩
  have hmem : tabAccents.getD j noRg ∈ tabAccents := getD_mem18 (by rw [accs_len]; omega)
  have HC := hid (fun w => (apiAccents w).mono fun e w' (h : ∃ v, e = .returned v ∧ OwnG 48 w.heap.size w' v tabAccents ∧ Below w.heap.size w w') => (show ∃ b o c, e = .returned (.slice (some ⟨b, o, none⟩) 13 c) ∧ 13 ≤ c ∧ b < w'.heap.size ∧ w'.cell? ⟨b, o + j * 3, none⟩ = some (.int .i64 (tabAccents.getD j noRg).f) ∧ w'.cell? ⟨b, o + j * 3 + 1, none⟩ = some (.int .i64 (tabAccents.getD j noRg).t) ∧ w'.cell? ⟨b, o + j * 3 + 2, none⟩ = some (.int .i64 (tabAccents.getD j noRg).v) ∧ Below w.heap.size w w' from by
    obtain ⟨v, rfl, h1, h2⟩ := h
    obtain ⟨b, o, c, rfl, hc, hcell⟩ := Sg.open18 h1.sg (by decide)
    obtain ⟨d1, d2, d3⟩ := hcell j (by rw [accs_len]; omega)
    exact ⟨b, o, c, rfl, hc, World.block_lt_of_cell? w' _ d1, d1, d2, d3, h2⟩))
  generalize tabAccents.getD j noRg = r at HC hmem
  obtain ⟨rf, rt, rv⟩ := r
  simp only at HC
  obtain ⟨hrf1, hrf2⟩ := acc_at hmem
  simp only at hrf1 hrf2
  obtain ⟨C, hC⟩ : ∃ C : Int, C = 65 + (k1 : Int) + 32 * (k2 : Int) := ⟨_, rfl⟩
  have hCl : letB C = true := by unfold letB; rw [decide_eq_true_iff]; omega
  have wa : IntKind.i64.wrap (65 + (k1 : Int)) = 65 + (k1 : Int) := by simp only [IntKind.wrap, IntKind.bits, IntKind.signed]; simp; omega
  have wb : IntKind.i64.wrap (32 * (k2 : Int)) = 32 * (k2 : Int) := by simp only [IntKind.wrap, IntKind.bits, IntKind.signed]; simp; omega
  have wc : IntKind.i64.wrap (65 + (k1 : Int) + 32 * (k2 : Int)) = C := by rw [hC]; simp only [IntKind.wrap, IntKind.bits, IntKind.signed]; simp; omega
  go_enter Try.func7, Try.ntmps7
  go_upto_region 5 with (go_at_call 21; refine (HC.out _).mono ?_; rintro e w1 ⟨b1, o1, c1, rfl, hc1, hlt1, d1, d2, d3, hb1⟩; have HB1 := hid hb1; clear hb1)
  obtain ⟨B, hB⟩ : ∃ B, B = w1.heap.size := ⟨_, rfl⟩
  obtain ⟨W, hW⟩ : ∃ W, W = w1.alloc (.cells #[.int .i64 rf, .int .i64 rt, .int .i64 rv] 48) := ⟨_, rfl⟩
  have HX0 := hid (show Box 48 [.int .i64 rf, .int .i64 rt, .int .i64 rv] B W by rw [hW, hB]; exact Box.made w1 48 [.int .i64 rf, .int .i64 rt, .int .i64 rv])
  have HB0 := hid (show Below w.heap.size w W by rw [hW]; exact HB1.out.alloc HB1.out.size _)
  rw [← hW, ← hB]
  clear hW hB d1 d2 d3 hlt1
  go_upto_region 6 with (fail)
  rw [hK8, ← hC]
  clear hC wa wb wc hK hK6 hk2 hK8 hK1 hK2 hK61 hK62 hk20 hK81
  go_wp2_with (fail)
  go_loopw [9, 10] (fun bv tv wr => AccL W N bv tv wr) (fun bv _ _ => N - lenV bv)
  case atStart => exact ⟨0, none, none, 0, 0, by omega, rfl, rfl, Own.nil _ _ _ _, Own.nil _ _ _ _, Below.refl _ _⟩
  case round =>
    obtain ⟨k, ba, ta, bc, tc, hk, rfl, rfl, hob, hot, hbel⟩ := hrel
    replace hob := hid hob
    replace hot := hid hot
    replace hbel := hid hbel
    by_cases hlt : k < N
    · have hlr : (List.replicate k (120 : Int)).length = k := List.length_replicate
      have HRS := hid (rep_snoc k 120)
      obtain ⟨X, hX⟩ : ∃ X, X = List.replicate k (120 : Int) := ⟨_, rfl⟩
      rw [← hX] at hob hot hlr HRS
      have HLR := hid hlr
      clear hX hlr
      go_wp2_with (first
        | (have _u := HB5; clear _u; at_builtin; go_loud (refine wpList_app _ rfl _ _ 22 rfl .i64 W.heap.size 3 8 Try.underlying22 Try.infoI64 _ X [120] rfl (HT5.out.alloc _) _ rfl (lit_sl (by first | simp | rfl) rfl rfl (by simp)) (by have := HLR.out; unfold maxLen; simp only [List.length_cons, List.length_nil]; omega) (by have := HLR.out; simp only [List.length_cons, List.length_nil]; omega) (by have := HB5.out.size; simp; omega) ?_); intro v6 w6 ho6 hg6 hb6 hn6; have HT6 := hid ho6; have HO6 := hid ((HT5.out.alloc _).leavesN (HO5.out.alloc _) (by decide) hg6); have HB6 := hid ((HB5.out.alloc HB5.out.size _).trans hb6); clear ho6 hb6 hg6 hn6)
        | (at_builtin; go_loud (refine wpList_app _ rfl _ _ 23 rfl .u8 W.heap.size 5 1 Try.underlying23 Try.infoU8 _ X [120] rfl (hob.out.alloc _) _ rfl (lit_sl (by first | simp | rfl) rfl rfl (by simp)) (by have := HLR.out; unfold maxLen; simp only [List.length_cons, List.length_nil]; omega) (by have := HLR.out; simp only [List.length_cons, List.length_nil]; omega) (by have := hbel.out.size; simp; omega) ?_); intro v5 w5 ho5 hg5 hb5 hn5; have HO5 := hid ho5; have HT5 := hid ((hob.out.alloc _).leavesN (hot.out.alloc _) (by decide) hg5); have HB5 := hid ((hbel.out.alloc hbel.out.size _).trans hb5); clear ho5 hg5 hb5 hn5))
      obtain ⟨b5, c5, hv5⟩ := HO6.out.sl.form
      obtain ⟨b6, c6, hv6⟩ := HT6.out.sl.form
      rw [List.length_append, HLR.out] at hv5 hv6
      simp only [List.length_cons, List.length_nil, Nat.zero_add] at hv5 hv6
      subst hv5 hv6
      go_roundw
      case rel => exact ⟨k + 1, b5, b6, c5, c6, by omega, rfl, rfl, by rw [HRS.out]; exact HO6.out, by rw [HRS.out]; exact HT6.out, HB6.out⟩
      case measure => simp [lenV]; omega
    · obtain rfl : k = N := by omega
      obtain ⟨X, hX⟩ : ∃ X, X = List.replicate k (120 : Int) := ⟨_, rfl⟩
      have hlr : X.length = k := by rw [hX]; exact List.length_replicate
      have HLR := hid hlr
      have hXu : U8 X := by intro y hy; rw [hX] at hy; have := List.eq_of_mem_replicate hy; omega
      have h78 : k ≤ 20 := by omega
      have mk := fun (lits xs : List Int) (at2 e2 : Int) (hl : U8 lits) (hll : lits.length ≤ 2) (h : r3L (read18 (X ++ lits)) = xs ∧ (r3At (read18 (X ++ lits)) : Int) = at2 ∧ r3E (read18 (X ++ lits)) = e2) => hid (fun v w (hs : Sl .u8 w v (X ++ lits)) => (show Calls Try.prog 13 #[v] w fun e w' => ∃ x, e = .returned (.tuple #[x, .int .i64 at2, .int .i64 e2]) ∧ Own .i64 3 w.heap.size w' x xs ∧ Below w.heap.size w w' from by
        have h1 := HR v (X ++ lits) w hs (hXu.append hl) (by rw [List.length_append]; omega)
        rw [h.1, h.2.1, h.2.2] at h1
        exact h1))
      have hf := hrf1
      have G2 := mk [rf + 128, 32] (X ++ [rv]) 0 0 (by intro y hy; simp only [List.mem_cons, List.not_mem_nil, or_false] at hy; omega) (by simp) (by rw [hX, acc_space k hmem]; exact ⟨rfl, rfl, rfl⟩)
      have G3 := mk [rf + 128] [] (k : Int) 2 (by intro y hy; simp only [List.mem_cons, List.not_mem_nil, or_false] at hy; omega) (by simp) (by rw [hX, acc_end k hmem]; exact ⟨rfl, rfl, rfl⟩)
      have G4 := mk [rf + 128, 49] [] (k : Int) 13 (by intro y hy; simp only [List.mem_cons, List.not_mem_nil, or_false] at hy; omega) (by simp) (by rw [hX, acc_digit k hmem]; exact ⟨rfl, rfl, rfl⟩)
      have hG1 := acc_letter k hmem hCl
      have HP2 := hid (fun w => ucdPair C rt w)
      rw [← hX] at hob hot hG1
      have HX_wr := hid (HX0.out.below hbel.out HX0.out.lt)
      have HB_wr := hid hbel.out
      have hCb : 0 ≤ C ∧ C ≤ 255 := by unfold letB at hCl; rw [decide_eq_true_iff] at hCl; omega
      cases hp : pairS C rt with
      | mk mm ok =>
      rw [hp] at HP2 hG1
      simp only at hG1
      clear hX hlr hCl HC mk
      cases ok with
      | true =>
        have G1 := hid (fun v w (hs : Sl .u8 w v (X ++ [rf + 128, C])) => (show Calls Try.prog 13 #[v] w fun e w' => ∃ x, e = .returned (.tuple #[x, .int .i64 0, .int .i64 0]) ∧ Own .i64 3 w.heap.size w' x (X ++ [mm]) ∧ Below w.heap.size w w' from by
          have h1 := HR v (X ++ [rf + 128, C]) w hs (hXu.append (by intro y hy; simp only [List.mem_cons, List.not_mem_nil, or_false] at hy; omega)) (by have := HLR.out; rw [List.length_append]; simp; omega)
          rw [hG1] at h1
          exact h1))
        clear hG1 hXu HR HP HH
        have x1 := HX_wr.out.cell 1
        simp only [List.getElem?_cons_zero, List.getElem?_cons_succ] at x1
        go_upto_region 11 with (go_at_call 22; refine (HP2.out _).mono ?_; rintro e v1 ⟨rfl, hb1⟩; have HB_v1 := hid (HB_wr.out.trans (hb1.mono HB_wr.out.size)); have OB_v1 := hid (hob.out.below hb1); have OT_v1 := hid (hot.out.below hb1); have HX_v1 := hid (HX_wr.out.below hb1 HX_wr.out.lt); clear hb1)
        clear hob hot HX_wr HB_wr HX0 hbel HP2 x1
        have y0 := HX_v1.out.cell 0
        simp only [List.getElem?_cons_zero] at y0
        have HY := hid (fun w' (hb : Below v1.drew.heap.size v1.drew w') => (show w'.cell? ⟨B, 0, none⟩ = some (.int .i64 rf) from (hb.cell HX_v1.out.lt).trans y0))
        refine region_facts [isV (.slice ba k bc), ownV .u8 5 v1.heap.size X, isV (.pointer (some ⟨B, 0, none⟩)), isV (.int .i64 rf), isV (.int .i64 (rf + 128)), isV (.int .u8 (rf + 128)), isV (.int .i64 C), isV (.int .u8 (C)), slV .u8 [rf + 128, C]] 9 (by kernel_rfl) (by kernel_rfl) (by kernel_rfl) (obls_cons ?_ (obls_cons ?_ (obls_cons ?_ (obls_cons ?_ (obls_cons ?_ (obls_cons ?_ (obls_cons ?_ (obls_cons ?_ (obls_cons ?_ obls_nil))))))))) ?_
        · intro vs A w' hA hb hd
          have e0 : A.eval (.tmp 9) = .slice ba k bc := (ev0A hA (by kernel_rfl))
          exact fact_val rfl (exec_moveF rfl e0) rfl
        · intro vs A w' hA hb hd
          have e0v : vs 0 = .slice ba k bc := hd 0 (by omega) (by kernel_rfl)
          have e0 : A.eval (.tmp 73) = .slice ba k bc := (evA (j := 0) hA (by kernel_rfl) (by kernel_rfl)).trans e0v
          refine fact_call rfl (exec_callF (args := [.slice ba k bc]) rfl (by simp only [List.map_cons, List.map_nil]; rw [e0]) Try.func19 (by kernel_rfl) rfl) ((keepTwin _ X w' (OB_v1.out.sl.below (((Below.refl v1.heap.size v1).drew).trans hb)) (by have := HLR.out; omega)).mono ?_)
          rintro e w'' ⟨x, rfl, h1, h2⟩
          exact ⟨x, rfl, h1.mono hb.size, h2⟩
        · intro vs A w' hA hb hd
          have e0 : A.eval (.tmp 8) = .pointer (some ⟨B, 0, none⟩) := (ev0A hA (by kernel_rfl))
          exact fact_val rfl (exec_indexF rfl e0 rfl (by kernel_rfl)) rfl
        · intro vs A w' hA hb hd
          have e0v : vs 2 = .pointer (some ⟨B, 0, none⟩) := hd 2 (by omega) (by kernel_rfl)
          have e0 : A.eval (.tmp 75) = .pointer (some ⟨B, 0, none⟩) := (evA (j := 2) hA (by kernel_rfl) (by kernel_rfl)).trans e0v
          exact fact_val rfl (exec_int rfl e0 (HY w' hb)) rfl
        · intro vs A w' hA hb hd
          have e0v : vs 3 = .int .i64 rf := hd 3 (by omega) (by kernel_rfl)
          have e0 : A.eval (.tmp 76) = .int .i64 rf := (evA (j := 3) hA (by kernel_rfl) (by kernel_rfl)).trans e0v
          refine fact_val rfl (exec_binF rfl e0 rfl ?_) rfl
          go_simp
          simp only [IntKind.wrap, IntKind.bits, IntKind.signed]; simp; omega
        · intro vs A w' hA hb hd
          have e0v : vs 4 = .int .i64 (rf + 128) := hd 4 (by omega) (by kernel_rfl)
          have e0 : A.eval (.tmp 77) = .int .i64 (rf + 128) := (evA (j := 4) hA (by kernel_rfl) (by kernel_rfl)).trans e0v
          refine fact_val rfl (exec_convF rfl e0 ?_) rfl
          go_simp
          simp only [IntKind.wrap, IntKind.bits, IntKind.signed]; simp; omega
        · intro vs A w' hA hb hd
          have e0 : A.eval (.tmp 1) = .int .i64 C := (ev0A hA (by kernel_rfl))
          exact fact_val rfl (exec_moveF rfl e0) rfl
        · intro vs A w' hA hb hd
          have e0v : vs 6 = .int .i64 C := hd 6 (by omega) (by kernel_rfl)
          have e0 : A.eval (.tmp 79) = .int .i64 C := (evA (j := 6) hA (by kernel_rfl) (by kernel_rfl)).trans e0v
          refine fact_val rfl (exec_convF rfl e0 ?_) rfl
          go_simp
          simp only [IntKind.wrap, IntKind.bits, IntKind.signed]; simp; omega
        · intro vs A w' hA hb hd
          have e0v : vs 5 = .int .u8 (rf + 128) := hd 5 (by omega) (by kernel_rfl)
          have e0 : A.eval (.tmp 78) = .int .u8 (rf + 128) := (evA (j := 5) hA (by kernel_rfl) (by kernel_rfl)).trans e0v
          have e1v : vs 7 = .int .u8 (C) := hd 7 (by omega) (by kernel_rfl)
          have e1 : A.eval (.tmp 80) = .int .u8 (C) := (evA (j := 7) hA (by kernel_rfl) (by kernel_rfl)).trans e1v
          exact fact_new rfl (exec_lit (xs := [rf + 128, C]) rfl Try.underlying23 Try.infoU8 (by simp only [List.map_cons, List.map_nil]; rw [e0, e1]; rfl) rfl (by decide) (by decide)) (by (repeat (first | exact Below.refl _ _ | exact below_drewN _ | refine Below.drew ?_ | refine Below.alloc ?_ (by simp) _ | refine Below.setCell ?_ (by simp) _ | refine below_drewN' ?_ _))) (lit_sl rfl rfl rfl (by simp))
        intro vs v3 hb3 hk
        obtain ⟨-, k10, -, -, -, -, -, -, k80, -⟩ := hk
        have k1 : Own .u8 5 v1.heap.size v3 (vs 1) X := k10
        have k8 : Sl .u8 v3 (vs 8) [rf + 128, C] := k80
        refine any_step rfl (by kernel_rfl) ?_
        have hs3 : v1.heap.size ≤ v3.heap.size := hb3.size
        generalize hA : upTo _ 0 _ vs _ = A
        have hsz : A.tmps.size = 191 := size_upTo (by kernel_rfl) hA.symm
        refine wpList_app v3 rfl (.tmp 74) (.tmp 81) 23 rfl .u8 v1.heap.size 5 1 Try.underlying23 Try.infoU8 (vs 1) X [rf + 128, C] (evA (j := 1) hA.symm (by kernel_rfl) (by kernel_rfl)) k1 (vs 8) (evA (j := 8) hA.symm (by kernel_rfl) (by kernel_rfl)) k8 (by have := HLR.out; unfold maxLen; simp; omega) (by have := HLR.out; simp; omega) hs3 ?_
        intro v7 v4 ho7 hg7 hb7 hn7
        refine goesOn_normal (any_facts (m0 := 10) (fuel := 0) [readO v1.heap.size (X ++ [mm]) 0 0, readO v1.heap.size (X ++ [mm]) 0 0, ownV .i64 3 v1.heap.size (X ++ [mm]), isV (.int .i64 0), isV (.int .i64 0), ownV .i64 3 v1.heap.size (X ++ [mm]), isV (.int .i64 0), isV (.int .i64 0)] (by kernel_rfl) (obls_cons ?_ (obls_cons ?_ (obls_cons ?_ (obls_cons ?_ (obls_cons ?_ (obls_cons ?_ (obls_cons ?_ (obls_cons ?_ obls_nil)))))))) ?_)
        · intro vs2 A2 w' hA2 hb hd
          have e0 : A2.eval (.tmp 82) = v7 := (ev0A hA2 (by kernel_rfl)).trans (put_at hsz (by kernel_rfl))
          refine fact_call rfl (exec_callF (args := [v7]) rfl (by simp only [List.map_cons, List.map_nil]; rw [e0]) Try.func13 (by kernel_rfl) rfl) ((G1.out v7 w' (ho7.sl.below hb)).mono ?_)
          rintro e w'' ⟨x, rfl, h1, h2⟩
          exact ⟨_, rfl, ⟨x, rfl, h1.mono (Nat.le_trans hs3 (Nat.le_trans hg7.size hb.size))⟩, h2⟩
        · intro vs2 A2 w' hA2 hb hd
          have h0 := hd 10 (by omega) (by kernel_rfl)
          exact fact_val rfl (exec_moveF rfl (evS (j := 10) (size_put hsz) hA2 (by kernel_rfl) (by kernel_rfl))) h0
        · intro vs2 A2 w' hA2 hb hd
          obtain ⟨x, h0, h1⟩ := hd 11 (by omega) (by kernel_rfl)
          exact fact_val rfl (exec_extract rfl ((evS (j := 11) (size_put hsz) hA2 (by kernel_rfl) (by kernel_rfl)).trans h0) rfl) h1
        · intro vs2 A2 w' hA2 hb hd
          obtain ⟨x, h0, h1⟩ := hd 11 (by omega) (by kernel_rfl)
          exact fact_val rfl (exec_extract rfl ((evS (j := 11) (size_put hsz) hA2 (by kernel_rfl) (by kernel_rfl)).trans h0) rfl) rfl
        · intro vs2 A2 w' hA2 hb hd
          obtain ⟨x, h0, h1⟩ := hd 11 (by omega) (by kernel_rfl)
          exact fact_val rfl (exec_extract rfl ((evS (j := 11) (size_put hsz) hA2 (by kernel_rfl) (by kernel_rfl)).trans h0) rfl) rfl
        · intro vs2 A2 w' hA2 hb hd
          have h0 := hd 12 (by omega) (by kernel_rfl)
          exact fact_val rfl (exec_assign rfl (evS (j := 12) (size_put hsz) hA2 (by kernel_rfl) (by kernel_rfl))) h0
        · intro vs2 A2 w' hA2 hb hd
          have e0v : vs2 13 = .int .i64 0 := hd 13 (by omega) (by kernel_rfl)
          have e0 : A2.eval (.tmp 85) = .int .i64 0 := (evS (j := 13) (size_put hsz) hA2 (by kernel_rfl) (by kernel_rfl)).trans e0v
          exact fact_val rfl (exec_assign rfl e0) rfl
        · intro vs2 A2 w' hA2 hb hd
          have e0v : vs2 14 = .int .i64 0 := hd 14 (by omega) (by kernel_rfl)
          have e0 : A2.eval (.tmp 86) = .int .i64 0 := (evS (j := 14) (size_put hsz) hA2 (by kernel_rfl) (by kernel_rfl)).trans e0v
          exact fact_val rfl (exec_assign rfl e0) rfl
        intro vs2 v11 hb5 hk
        obtain ⟨-, -, -, -, -, ka0, kb0, kc0, -⟩ := hk
        refine any_over rfl ?_
        have hs4 : v1.heap.size ≤ v4.heap.size := Nat.le_trans hs3 hg7.size
        have hV5 : Below v1.heap.size v1 v11 := ((((Below.refl v1.heap.size v1).drew).trans hb3).trans hb7).trans (hb5.mono hs4)
        have HB_v11 := hid (HB_v1.out.trans (hV5.mono HB_v1.out.size))
        have OB_v11 := hid (OB_v1.out.below hV5)
        have OT_v11 := hid (OT_v1.out.below hV5)
        have HX_v11 := hid (HX_v1.out.below hV5 HX_v1.out.lt)
        have ka : Own .i64 3 v1.heap.size v11 (vs2 15) (X ++ [mm]) := ka0
        have kb : vs2 16 = .int .i64 0 := kb0
        have kc : vs2 17 = .int .i64 0 := kc0
        subst hA
        simp only [upTo, dstOf, Act.put, List.getElem?_toArray, List.getElem?_cons_zero, List.getElem?_cons_succ, Option.bind_some, List.setIfInBounds_toArray, List.set_cons_zero, List.set_cons_succ, Nat.reduceLeDiff, Nat.reduceAdd, Nat.le_refl, Nat.zero_le, if_true, if_false, List.length_cons, List.length_nil]
        rw [kb, kc]
        obtain ⟨sa1, sc1, hv8⟩ := ka.sl.form
        have SS1 := hid ka
        obtain ⟨sn1, hsn⟩ : ∃ q, q = ((X ++ [mm]) : List Int).length := ⟨_, rfl⟩
        rw [← hsn] at hv8
        rw [hv8] at SS1 ⊢
        have HSN1 := hid hsn
        clear hsn hv8
        generalize vs 0 = p1_0
        generalize vs 1 = p1_1
        generalize vs 2 = p1_2
        generalize vs 3 = p1_3
        generalize vs 4 = p1_4
        generalize vs 5 = p1_5
        generalize vs 6 = p1_6
        generalize vs 7 = p1_7
        generalize vs 8 = p1_8
        generalize vs2 10 = q1_10
        generalize vs2 11 = q1_11
        generalize vs2 12 = q1_12
        generalize vs2 13 = q1_13
        generalize vs2 14 = q1_14
        clear ka kb kc ka0 kb0 kc0 hb5 hb7 hg7 hn7 ho7 k1 k10 k8 k80 hb3 HY y0 hs4 hs3 hV5 hsz
        clear OB_v1 OT_v1 HX_v1 HB_v1 vs vs2
        go_upto_region 14 with (first
          | (have _u := HB_t2; clear _u; go_at_call 14; refine (keepInts _ _ (X ++ [mm]) (X ++ [mm]) _ SS_t2.out.sl HO_t2.out.sl).mono ?_; rw [eqL_self]; rintro e v12 ⟨rfl, n3, hw3⟩; have hV := (show Below t2.heap.size t2 v12 from by rw [hw3]; exact below_drewN' (Below.refl _ _) n3); have HB_v12 := hid (HB_t2.out.trans (hV.mono HB_t2.out.size)); have OB_v12 := hid (OB_t2.out.below hV); have OT_v12 := hid (OT_t2.out.below hV); have HX_v12 := hid (HX_t2.out.below hV HX_t2.out.lt); clear hw3 hV)
          | (have _u := HB_t1; clear _u; at_builtin; go_loud (refine wpList_guarded (by rfl) ?_; refine wpList_app _ rfl _ _ 22 rfl .i64 v11.heap.size 3 8 Try.underlying22 Try.infoI64 _ X [mm] rfl (HO_t1.out.alloc _) _ rfl (lit_sl (by first | simp | rfl) rfl rfl (by simp)) (by have := HLR.out; unfold maxLen; simp only [List.length_cons, List.length_nil]; omega) (by have := HLR.out; simp only [List.length_cons, List.length_nil]; omega) (by have := HC_t1.out.size; simp; omega) ?_); intro v6 t2 ho6 hg6 hb6 hn6; have HO_t2 := hid ho6; have hV := (HC_t1.out.alloc HC_t1.out.size _).trans hb6; have SS_t2 := hid (SS1.out.below hV); have HB_t2 := hid (HB_v11.out.trans (hV.mono HB_v11.out.size)); have OB_t2 := hid (OB_v11.out.below hV); have OT_t2 := hid (OT_v11.out.below hV); have HX_t2 := hid (HX_v11.out.below hV HX_v11.out.lt); clear ho6 hb6 hg6 hn6 hV)
          | (go_at_call 23; refine (keepTwinInts _ X v11 OT_v11.out.sl (by have := HLR.out; omega)).mono ?_; rintro e t1 ⟨u1, rfl, ho1, hb1⟩; have HO_t1 := hid ho1; have HC_t1 := hid hb1; have HB_t1 := hid (HB_v11.out.trans (hb1.mono HB_v11.out.size)); clear ho1 hb1))
        clear SS1 SS_t2 HO_t2 HB_t2 OB_t2 OT_t2 HX_t2 HO_t1 HC_t1 HB_t1 OB_v11 OT_v11 HX_v11 HB_v11
        have HLT := hid (fun r hr => (World.ownsRow.lt OT_v12.out r hr).2)
        have y0 := HX_v12.out.cell 0
        simp only [List.getElem?_cons_zero] at y0
        have HY := hid (fun w' (hb : Below v12.drew.heap.size v12.drew w') => (show w'.cell? ⟨B, 0, none⟩ = some (.int .i64 rf) from (hb.cell HX_v12.out.lt).trans y0))
        refine region_facts [isV (.slice ba k bc), ownV .u8 5 v12.heap.size X, isV (.pointer (some ⟨B, 0, none⟩)), isV (.int .i64 rf), isV (.int .i64 (rf + 128)), isV (.int .u8 (rf + 128)), slV .u8 [rf + 128, 32]] 9 (by kernel_rfl) (by kernel_rfl) (by kernel_rfl) (obls_cons ?_ (obls_cons ?_ (obls_cons ?_ (obls_cons ?_ (obls_cons ?_ (obls_cons ?_ (obls_cons ?_ obls_nil))))))) ?_
        · intro vs A w' hA hb hd
          have e0 : A.eval (.tmp 9) = .slice ba k bc := (ev0A hA (by kernel_rfl))
          exact fact_val rfl (exec_moveF rfl e0) rfl
        · intro vs A w' hA hb hd
          have e0v : vs 0 = .slice ba k bc := hd 0 (by omega) (by kernel_rfl)
          have e0 : A.eval (.tmp 121) = .slice ba k bc := (evA (j := 0) hA (by kernel_rfl) (by kernel_rfl)).trans e0v
          refine fact_call rfl (exec_callF (args := [.slice ba k bc]) rfl (by simp only [List.map_cons, List.map_nil]; rw [e0]) Try.func19 (by kernel_rfl) rfl) ((keepTwin _ X w' (OB_v12.out.sl.below (((Below.refl v12.heap.size v12).drew).trans hb)) (by have := HLR.out; omega)).mono ?_)
          rintro e w'' ⟨x, rfl, h1, h2⟩
          exact ⟨x, rfl, h1.mono hb.size, h2⟩
        · intro vs A w' hA hb hd
          have e0 : A.eval (.tmp 8) = .pointer (some ⟨B, 0, none⟩) := (ev0A hA (by kernel_rfl))
          exact fact_val rfl (exec_indexF rfl e0 rfl (by kernel_rfl)) rfl
        · intro vs A w' hA hb hd
          have e0v : vs 2 = .pointer (some ⟨B, 0, none⟩) := hd 2 (by omega) (by kernel_rfl)
          have e0 : A.eval (.tmp 123) = .pointer (some ⟨B, 0, none⟩) := (evA (j := 2) hA (by kernel_rfl) (by kernel_rfl)).trans e0v
          exact fact_val rfl (exec_int rfl e0 (HY w' hb)) rfl
        · intro vs A w' hA hb hd
          have e0v : vs 3 = .int .i64 rf := hd 3 (by omega) (by kernel_rfl)
          have e0 : A.eval (.tmp 124) = .int .i64 rf := (evA (j := 3) hA (by kernel_rfl) (by kernel_rfl)).trans e0v
          refine fact_val rfl (exec_binF rfl e0 rfl ?_) rfl
          go_simp
          simp only [IntKind.wrap, IntKind.bits, IntKind.signed]; simp; omega
        · intro vs A w' hA hb hd
          have e0v : vs 4 = .int .i64 (rf + 128) := hd 4 (by omega) (by kernel_rfl)
          have e0 : A.eval (.tmp 125) = .int .i64 (rf + 128) := (evA (j := 4) hA (by kernel_rfl) (by kernel_rfl)).trans e0v
          refine fact_val rfl (exec_convF rfl e0 ?_) rfl
          go_simp
          simp only [IntKind.wrap, IntKind.bits, IntKind.signed]; simp; omega
        · intro vs A w' hA hb hd
          have e0v : vs 5 = .int .u8 (rf + 128) := hd 5 (by omega) (by kernel_rfl)
          have e0 : A.eval (.tmp 126) = .int .u8 (rf + 128) := (evA (j := 5) hA (by kernel_rfl) (by kernel_rfl)).trans e0v
          exact fact_new rfl (exec_lit (xs := [rf + 128, 32]) rfl Try.underlying23 Try.infoU8 (by simp only [List.map_cons, List.map_nil]; rw [e0]; rfl) rfl (by decide) (by decide)) (by (repeat (first | exact Below.refl _ _ | exact below_drewN _ | refine Below.drew ?_ | refine Below.alloc ?_ (by simp) _ | refine Below.setCell ?_ (by simp) _ | refine below_drewN' ?_ _))) (lit_sl rfl rfl rfl (by simp))
        intro vs v3 hb3 hk
        obtain ⟨-, k10, -, -, -, -, k60, -⟩ := hk
        have k1 : Own .u8 5 v12.heap.size v3 (vs 1) X := k10
        have k6 : Sl .u8 v3 (vs 6) [rf + 128, 32] := k60
        refine any_step rfl (by kernel_rfl) ?_
        have hs3 : v12.heap.size ≤ v3.heap.size := hb3.size
        generalize hA : upTo _ 0 _ vs _ = A
        have hsz : A.tmps.size = 191 := size_upTo (by kernel_rfl) hA.symm
        refine wpList_app v3 rfl (.tmp 122) (.tmp 127) 23 rfl .u8 v12.heap.size 5 1 Try.underlying23 Try.infoU8 (vs 1) X [rf + 128, 32] (evA (j := 1) hA.symm (by kernel_rfl) (by kernel_rfl)) k1 (vs 6) (evA (j := 6) hA.symm (by kernel_rfl) (by kernel_rfl)) k6 (by have := HLR.out; unfold maxLen; simp; omega) (by have := HLR.out; simp; omega) hs3 ?_
        intro v7 v4 ho7 hg7 hb7 hn7
        refine goesOn_normal (any_facts (m0 := 8) (fuel := 0) [readO v12.heap.size (X ++ [rv]) 0 0, readO v12.heap.size (X ++ [rv]) 0 0, ownV .i64 3 v12.heap.size (X ++ [rv]), isV (.int .i64 0), isV (.int .i64 0), ownV .i64 3 v12.heap.size (X ++ [rv]), isV (.int .i64 0), isV (.int .i64 0)] (by kernel_rfl) (obls_cons ?_ (obls_cons ?_ (obls_cons ?_ (obls_cons ?_ (obls_cons ?_ (obls_cons ?_ (obls_cons ?_ (obls_cons ?_ obls_nil)))))))) ?_)
        · intro vs2 A2 w' hA2 hb hd
          have e0 : A2.eval (.tmp 128) = v7 := (ev0A hA2 (by kernel_rfl)).trans (put_at hsz (by kernel_rfl))
          refine fact_call rfl (exec_callF (args := [v7]) rfl (by simp only [List.map_cons, List.map_nil]; rw [e0]) Try.func13 (by kernel_rfl) rfl) ((G2.out v7 w' (ho7.sl.below hb)).mono ?_)
          rintro e w'' ⟨x, rfl, h1, h2⟩
          exact ⟨_, rfl, ⟨x, rfl, h1.mono (Nat.le_trans hs3 (Nat.le_trans hg7.size hb.size))⟩, h2⟩
        · intro vs2 A2 w' hA2 hb hd
          have h0 := hd 8 (by omega) (by kernel_rfl)
          exact fact_val rfl (exec_moveF rfl (evS (j := 8) (size_put hsz) hA2 (by kernel_rfl) (by kernel_rfl))) h0
        · intro vs2 A2 w' hA2 hb hd
          obtain ⟨x, h0, h1⟩ := hd 9 (by omega) (by kernel_rfl)
          exact fact_val rfl (exec_extract rfl ((evS (j := 9) (size_put hsz) hA2 (by kernel_rfl) (by kernel_rfl)).trans h0) rfl) h1
        · intro vs2 A2 w' hA2 hb hd
          obtain ⟨x, h0, h1⟩ := hd 9 (by omega) (by kernel_rfl)
          exact fact_val rfl (exec_extract rfl ((evS (j := 9) (size_put hsz) hA2 (by kernel_rfl) (by kernel_rfl)).trans h0) rfl) rfl
        · intro vs2 A2 w' hA2 hb hd
          obtain ⟨x, h0, h1⟩ := hd 9 (by omega) (by kernel_rfl)
          exact fact_val rfl (exec_extract rfl ((evS (j := 9) (size_put hsz) hA2 (by kernel_rfl) (by kernel_rfl)).trans h0) rfl) rfl
        · intro vs2 A2 w' hA2 hb hd
          have h0 := hd 10 (by omega) (by kernel_rfl)
          exact fact_val rfl (exec_assign rfl (evS (j := 10) (size_put hsz) hA2 (by kernel_rfl) (by kernel_rfl))) h0
        · intro vs2 A2 w' hA2 hb hd
          have e0v : vs2 11 = .int .i64 0 := hd 11 (by omega) (by kernel_rfl)
          have e0 : A2.eval (.tmp 131) = .int .i64 0 := (evS (j := 11) (size_put hsz) hA2 (by kernel_rfl) (by kernel_rfl)).trans e0v
          exact fact_val rfl (exec_assign rfl e0) rfl
        · intro vs2 A2 w' hA2 hb hd
          have e0v : vs2 12 = .int .i64 0 := hd 12 (by omega) (by kernel_rfl)
          have e0 : A2.eval (.tmp 132) = .int .i64 0 := (evS (j := 12) (size_put hsz) hA2 (by kernel_rfl) (by kernel_rfl)).trans e0v
          exact fact_val rfl (exec_assign rfl e0) rfl
        intro vs2 v14 hb5 hk
        obtain ⟨-, -, -, -, -, ka0, kb0, kc0, -⟩ := hk
        refine any_over rfl ?_
        have hs4 : v12.heap.size ≤ v4.heap.size := Nat.le_trans hs3 hg7.size
        have hV5 : Below v12.heap.size v12 v14 := ((((Below.refl v12.heap.size v12).drew).trans hb3).trans hb7).trans (hb5.mono hs4)
        have HB_v14 := hid (HB_v12.out.trans (hV5.mono HB_v12.out.size))
        have OB_v14 := hid (OB_v12.out.below hV5)
        have OT_v14 := hid (OT_v12.out.below hV5)
        have HX_v14 := hid (HX_v12.out.below hV5 HX_v12.out.lt)
        have ka : Own .i64 3 v12.heap.size v14 (vs2 13) (X ++ [rv]) := ka0
        have kb : vs2 14 = .int .i64 0 := kb0
        have kc : vs2 15 = .int .i64 0 := kc0
        subst hA
        simp only [upTo, dstOf, Act.put, List.getElem?_toArray, List.getElem?_cons_zero, List.getElem?_cons_succ, Option.bind_some, List.setIfInBounds_toArray, List.set_cons_zero, List.set_cons_succ, Nat.reduceLeDiff, Nat.reduceAdd, Nat.le_refl, Nat.zero_le, if_true, if_false, List.length_cons, List.length_nil]
        rw [kb, kc]
        obtain ⟨sa2, sc2, hv8⟩ := ka.sl.form
        have SS2 := hid ka
        obtain ⟨sn2, hsn⟩ : ∃ q, q = ((X ++ [rv]) : List Int).length := ⟨_, rfl⟩
        rw [← hsn] at hv8
        rw [hv8] at SS2 ⊢
        have HSN2 := hid hsn
        clear hsn hv8
        generalize vs 0 = p2_0
        generalize vs 1 = p2_1
        generalize vs 2 = p2_2
        generalize vs 3 = p2_3
        generalize vs 4 = p2_4
        generalize vs 5 = p2_5
        generalize vs 6 = p2_6
        generalize vs2 8 = q2_8
        generalize vs2 9 = q2_9
        generalize vs2 10 = q2_10
        generalize vs2 11 = q2_11
        generalize vs2 12 = q2_12
        clear ka kb kc ka0 kb0 kc0 hb5 hb7 hg7 hn7 ho7 k1 k10 k6 k60 hb3 HY y0 hs4 hs3 hV5 hsz
        clear OB_v12 OT_v12 HX_v12 HB_v12 vs vs2
        have TT_v14 := SS2
        clear SS2
        go_upto_region 15 with (fail)
        have y0 := HX_v14.out.cell 0
        simp only [List.getElem?_cons_zero] at y0
        have HY := hid (fun w' (hb : Below v14.drew.heap.size v14.drew w') => (show w'.cell? ⟨B, 0, none⟩ = some (.int .i64 rf) from (hb.cell HX_v14.out.lt).trans y0))
        refine region_facts [isV (.slice ba k bc), ownV .u8 5 v14.heap.size X, isV (.pointer (some ⟨B, 0, none⟩)), isV (.int .i64 rf), isV (.int .i64 (rf + 128)), isV (.int .u8 (rf + 128)), slV .u8 [rf + 128]] 9 (by kernel_rfl) (by kernel_rfl) (by kernel_rfl) (obls_cons ?_ (obls_cons ?_ (obls_cons ?_ (obls_cons ?_ (obls_cons ?_ (obls_cons ?_ (obls_cons ?_ obls_nil))))))) ?_
        · intro vs A w' hA hb hd
          have e0 : A.eval (.tmp 9) = .slice ba k bc := (ev0A hA (by kernel_rfl))
          exact fact_val rfl (exec_moveF rfl e0) rfl
        · intro vs A w' hA hb hd
          have e0v : vs 0 = .slice ba k bc := hd 0 (by omega) (by kernel_rfl)
          have e0 : A.eval (.tmp 134) = .slice ba k bc := (evA (j := 0) hA (by kernel_rfl) (by kernel_rfl)).trans e0v
          refine fact_call rfl (exec_callF (args := [.slice ba k bc]) rfl (by simp only [List.map_cons, List.map_nil]; rw [e0]) Try.func19 (by kernel_rfl) rfl) ((keepTwin _ X w' (OB_v14.out.sl.below (((Below.refl v14.heap.size v14).drew).trans hb)) (by have := HLR.out; omega)).mono ?_)
          rintro e w'' ⟨x, rfl, h1, h2⟩
          exact ⟨x, rfl, h1.mono hb.size, h2⟩
        · intro vs A w' hA hb hd
          have e0 : A.eval (.tmp 8) = .pointer (some ⟨B, 0, none⟩) := (ev0A hA (by kernel_rfl))
          exact fact_val rfl (exec_indexF rfl e0 rfl (by kernel_rfl)) rfl
        · intro vs A w' hA hb hd
          have e0v : vs 2 = .pointer (some ⟨B, 0, none⟩) := hd 2 (by omega) (by kernel_rfl)
          have e0 : A.eval (.tmp 136) = .pointer (some ⟨B, 0, none⟩) := (evA (j := 2) hA (by kernel_rfl) (by kernel_rfl)).trans e0v
          exact fact_val rfl (exec_int rfl e0 (HY w' hb)) rfl
        · intro vs A w' hA hb hd
          have e0v : vs 3 = .int .i64 rf := hd 3 (by omega) (by kernel_rfl)
          have e0 : A.eval (.tmp 137) = .int .i64 rf := (evA (j := 3) hA (by kernel_rfl) (by kernel_rfl)).trans e0v
          refine fact_val rfl (exec_binF rfl e0 rfl ?_) rfl
          go_simp
          simp only [IntKind.wrap, IntKind.bits, IntKind.signed]; simp; omega
        · intro vs A w' hA hb hd
          have e0v : vs 4 = .int .i64 (rf + 128) := hd 4 (by omega) (by kernel_rfl)
          have e0 : A.eval (.tmp 138) = .int .i64 (rf + 128) := (evA (j := 4) hA (by kernel_rfl) (by kernel_rfl)).trans e0v
          refine fact_val rfl (exec_convF rfl e0 ?_) rfl
          go_simp
          simp only [IntKind.wrap, IntKind.bits, IntKind.signed]; simp; omega
        · intro vs A w' hA hb hd
          have e0v : vs 5 = .int .u8 (rf + 128) := hd 5 (by omega) (by kernel_rfl)
          have e0 : A.eval (.tmp 139) = .int .u8 (rf + 128) := (evA (j := 5) hA (by kernel_rfl) (by kernel_rfl)).trans e0v
          exact fact_new rfl (exec_lit (xs := [rf + 128]) rfl Try.underlying23 Try.infoU8 (by simp only [List.map_cons, List.map_nil]; rw [e0]; rfl) rfl (by decide) (by decide)) (by (repeat (first | exact Below.refl _ _ | exact below_drewN _ | refine Below.drew ?_ | refine Below.alloc ?_ (by simp) _ | refine Below.setCell ?_ (by simp) _ | refine below_drewN' ?_ _))) (lit_sl rfl rfl rfl (by simp))
        intro vs v3 hb3 hk
        obtain ⟨-, k10, -, -, -, -, k60, -⟩ := hk
        have k1 : Own .u8 5 v14.heap.size v3 (vs 1) X := k10
        have k6 : Sl .u8 v3 (vs 6) [rf + 128] := k60
        refine any_step rfl (by kernel_rfl) ?_
        have hs3 : v14.heap.size ≤ v3.heap.size := hb3.size
        generalize hA : upTo _ 0 _ vs _ = A
        have hsz : A.tmps.size = 191 := size_upTo (by kernel_rfl) hA.symm
        refine wpList_app v3 rfl (.tmp 135) (.tmp 140) 23 rfl .u8 v14.heap.size 5 1 Try.underlying23 Try.infoU8 (vs 1) X [rf + 128] (evA (j := 1) hA.symm (by kernel_rfl) (by kernel_rfl)) k1 (vs 6) (evA (j := 6) hA.symm (by kernel_rfl) (by kernel_rfl)) k6 (by have := HLR.out; unfold maxLen; simp; omega) (by have := HLR.out; simp; omega) hs3 ?_
        intro v7 v4 ho7 hg7 hb7 hn7
        refine goesOn_normal (any_facts (m0 := 8) (fuel := 0) [readO v14.heap.size [] (k : Int) 2, readO v14.heap.size [] (k : Int) 2, ownV .i64 3 v14.heap.size [], isV (.int .i64 (k : Int)), isV (.int .i64 2), ownV .i64 3 v14.heap.size [], isV (.int .i64 (k : Int)), isV (.int .i64 2)] (by kernel_rfl) (obls_cons ?_ (obls_cons ?_ (obls_cons ?_ (obls_cons ?_ (obls_cons ?_ (obls_cons ?_ (obls_cons ?_ (obls_cons ?_ obls_nil)))))))) ?_)
        · intro vs2 A2 w' hA2 hb hd
          have e0 : A2.eval (.tmp 141) = v7 := (ev0A hA2 (by kernel_rfl)).trans (put_at hsz (by kernel_rfl))
          refine fact_call rfl (exec_callF (args := [v7]) rfl (by simp only [List.map_cons, List.map_nil]; rw [e0]) Try.func13 (by kernel_rfl) rfl) ((G3.out v7 w' (ho7.sl.below hb)).mono ?_)
          rintro e w'' ⟨x, rfl, h1, h2⟩
          exact ⟨_, rfl, ⟨x, rfl, h1.mono (Nat.le_trans hs3 (Nat.le_trans hg7.size hb.size))⟩, h2⟩
        · intro vs2 A2 w' hA2 hb hd
          have h0 := hd 8 (by omega) (by kernel_rfl)
          exact fact_val rfl (exec_moveF rfl (evS (j := 8) (size_put hsz) hA2 (by kernel_rfl) (by kernel_rfl))) h0
        · intro vs2 A2 w' hA2 hb hd
          obtain ⟨x, h0, h1⟩ := hd 9 (by omega) (by kernel_rfl)
          exact fact_val rfl (exec_extract rfl ((evS (j := 9) (size_put hsz) hA2 (by kernel_rfl) (by kernel_rfl)).trans h0) rfl) h1
        · intro vs2 A2 w' hA2 hb hd
          obtain ⟨x, h0, h1⟩ := hd 9 (by omega) (by kernel_rfl)
          exact fact_val rfl (exec_extract rfl ((evS (j := 9) (size_put hsz) hA2 (by kernel_rfl) (by kernel_rfl)).trans h0) rfl) rfl
        · intro vs2 A2 w' hA2 hb hd
          obtain ⟨x, h0, h1⟩ := hd 9 (by omega) (by kernel_rfl)
          exact fact_val rfl (exec_extract rfl ((evS (j := 9) (size_put hsz) hA2 (by kernel_rfl) (by kernel_rfl)).trans h0) rfl) rfl
        · intro vs2 A2 w' hA2 hb hd
          have h0 := hd 10 (by omega) (by kernel_rfl)
          exact fact_val rfl (exec_assign rfl (evS (j := 10) (size_put hsz) hA2 (by kernel_rfl) (by kernel_rfl))) h0
        · intro vs2 A2 w' hA2 hb hd
          have e0v : vs2 11 = .int .i64 (k : Int) := hd 11 (by omega) (by kernel_rfl)
          have e0 : A2.eval (.tmp 144) = .int .i64 (k : Int) := (evS (j := 11) (size_put hsz) hA2 (by kernel_rfl) (by kernel_rfl)).trans e0v
          exact fact_val rfl (exec_assign rfl e0) rfl
        · intro vs2 A2 w' hA2 hb hd
          have e0v : vs2 12 = .int .i64 2 := hd 12 (by omega) (by kernel_rfl)
          have e0 : A2.eval (.tmp 145) = .int .i64 2 := (evS (j := 12) (size_put hsz) hA2 (by kernel_rfl) (by kernel_rfl)).trans e0v
          exact fact_val rfl (exec_assign rfl e0) rfl
        intro vs2 v15 hb5 hk
        obtain ⟨-, -, -, -, -, ka0, kb0, kc0, -⟩ := hk
        refine any_over rfl ?_
        have hs4 : v14.heap.size ≤ v4.heap.size := Nat.le_trans hs3 hg7.size
        have hV5 : Below v14.heap.size v14 v15 := ((((Below.refl v14.heap.size v14).drew).trans hb3).trans hb7).trans (hb5.mono hs4)
        have HB_v15 := hid (HB_v14.out.trans (hV5.mono HB_v14.out.size))
        have OB_v15 := hid (OB_v14.out.below hV5)
        have OT_v15 := hid (OT_v14.out.below hV5)
        have HX_v15 := hid (HX_v14.out.below hV5 HX_v14.out.lt)
        have TT_v15 := hid (TT_v14.out.below hV5)
        have ka : Own .i64 3 v14.heap.size v15 (vs2 13) [] := ka0
        have kb : vs2 14 = .int .i64 (k : Int) := kb0
        have kc : vs2 15 = .int .i64 2 := kc0
        subst hA
        simp only [upTo, dstOf, Act.put, List.getElem?_toArray, List.getElem?_cons_zero, List.getElem?_cons_succ, Option.bind_some, List.setIfInBounds_toArray, List.set_cons_zero, List.set_cons_succ, Nat.reduceLeDiff, Nat.reduceAdd, Nat.le_refl, Nat.zero_le, if_true, if_false, List.length_cons, List.length_nil]
        rw [kb, kc]
        obtain ⟨sa3, sc3, hv8⟩ := ka.sl.form
        have SS3 := hid ka
        obtain ⟨sn3, hsn⟩ : ∃ q, q = ([] : List Int).length := ⟨_, rfl⟩
        rw [← hsn] at hv8
        rw [hv8] at SS3 ⊢
        have HSN3 := hid hsn
        clear hsn hv8
        generalize vs 0 = p3_0
        generalize vs 1 = p3_1
        generalize vs 2 = p3_2
        generalize vs 3 = p3_3
        generalize vs 4 = p3_4
        generalize vs 5 = p3_5
        generalize vs 6 = p3_6
        generalize vs2 8 = q3_8
        generalize vs2 9 = q3_9
        generalize vs2 10 = q3_10
        generalize vs2 11 = q3_11
        generalize vs2 12 = q3_12
        clear ka kb kc ka0 kb0 kc0 hb5 hb7 hg7 hn7 ho7 k1 k10 k6 k60 hb3 HY y0 hs4 hs3 hV5 hsz
        clear OB_v14 OT_v14 HX_v14 HB_v14 vs vs2
        clear TT_v14 SS3
        go_upto_region 16 with (fail)
        have y0 := HX_v15.out.cell 0
        simp only [List.getElem?_cons_zero] at y0
        have HY := hid (fun w' (hb : Below v15.drew.heap.size v15.drew w') => (show w'.cell? ⟨B, 0, none⟩ = some (.int .i64 rf) from (hb.cell HX_v15.out.lt).trans y0))
        refine region_facts [isV (.slice ba k bc), ownV .u8 5 v15.heap.size X, isV (.pointer (some ⟨B, 0, none⟩)), isV (.int .i64 rf), isV (.int .i64 (rf + 128)), isV (.int .u8 (rf + 128)), slV .u8 [rf + 128, 49]] 9 (by kernel_rfl) (by kernel_rfl) (by kernel_rfl) (obls_cons ?_ (obls_cons ?_ (obls_cons ?_ (obls_cons ?_ (obls_cons ?_ (obls_cons ?_ (obls_cons ?_ obls_nil))))))) ?_
        · intro vs A w' hA hb hd
          have e0 : A.eval (.tmp 9) = .slice ba k bc := (ev0A hA (by kernel_rfl))
          exact fact_val rfl (exec_moveF rfl e0) rfl
        · intro vs A w' hA hb hd
          have e0v : vs 0 = .slice ba k bc := hd 0 (by omega) (by kernel_rfl)
          have e0 : A.eval (.tmp 147) = .slice ba k bc := (evA (j := 0) hA (by kernel_rfl) (by kernel_rfl)).trans e0v
          refine fact_call rfl (exec_callF (args := [.slice ba k bc]) rfl (by simp only [List.map_cons, List.map_nil]; rw [e0]) Try.func19 (by kernel_rfl) rfl) ((keepTwin _ X w' (OB_v15.out.sl.below (((Below.refl v15.heap.size v15).drew).trans hb)) (by have := HLR.out; omega)).mono ?_)
          rintro e w'' ⟨x, rfl, h1, h2⟩
          exact ⟨x, rfl, h1.mono hb.size, h2⟩
        · intro vs A w' hA hb hd
          have e0 : A.eval (.tmp 8) = .pointer (some ⟨B, 0, none⟩) := (ev0A hA (by kernel_rfl))
          exact fact_val rfl (exec_indexF rfl e0 rfl (by kernel_rfl)) rfl
        · intro vs A w' hA hb hd
          have e0v : vs 2 = .pointer (some ⟨B, 0, none⟩) := hd 2 (by omega) (by kernel_rfl)
          have e0 : A.eval (.tmp 149) = .pointer (some ⟨B, 0, none⟩) := (evA (j := 2) hA (by kernel_rfl) (by kernel_rfl)).trans e0v
          exact fact_val rfl (exec_int rfl e0 (HY w' hb)) rfl
        · intro vs A w' hA hb hd
          have e0v : vs 3 = .int .i64 rf := hd 3 (by omega) (by kernel_rfl)
          have e0 : A.eval (.tmp 150) = .int .i64 rf := (evA (j := 3) hA (by kernel_rfl) (by kernel_rfl)).trans e0v
          refine fact_val rfl (exec_binF rfl e0 rfl ?_) rfl
          go_simp
          simp only [IntKind.wrap, IntKind.bits, IntKind.signed]; simp; omega
        · intro vs A w' hA hb hd
          have e0v : vs 4 = .int .i64 (rf + 128) := hd 4 (by omega) (by kernel_rfl)
          have e0 : A.eval (.tmp 151) = .int .i64 (rf + 128) := (evA (j := 4) hA (by kernel_rfl) (by kernel_rfl)).trans e0v
          refine fact_val rfl (exec_convF rfl e0 ?_) rfl
          go_simp
          simp only [IntKind.wrap, IntKind.bits, IntKind.signed]; simp; omega
        · intro vs A w' hA hb hd
          have e0v : vs 5 = .int .u8 (rf + 128) := hd 5 (by omega) (by kernel_rfl)
          have e0 : A.eval (.tmp 152) = .int .u8 (rf + 128) := (evA (j := 5) hA (by kernel_rfl) (by kernel_rfl)).trans e0v
          exact fact_new rfl (exec_lit (xs := [rf + 128, 49]) rfl Try.underlying23 Try.infoU8 (by simp only [List.map_cons, List.map_nil]; rw [e0]; rfl) rfl (by decide) (by decide)) (by (repeat (first | exact Below.refl _ _ | exact below_drewN _ | refine Below.drew ?_ | refine Below.alloc ?_ (by simp) _ | refine Below.setCell ?_ (by simp) _ | refine below_drewN' ?_ _))) (lit_sl rfl rfl rfl (by simp))
        intro vs v3 hb3 hk
        obtain ⟨-, k10, -, -, -, -, k60, -⟩ := hk
        have k1 : Own .u8 5 v15.heap.size v3 (vs 1) X := k10
        have k6 : Sl .u8 v3 (vs 6) [rf + 128, 49] := k60
        refine any_step rfl (by kernel_rfl) ?_
        have hs3 : v15.heap.size ≤ v3.heap.size := hb3.size
        generalize hA : upTo _ 0 _ vs _ = A
        have hsz : A.tmps.size = 191 := size_upTo (by kernel_rfl) hA.symm
        refine wpList_app v3 rfl (.tmp 148) (.tmp 153) 23 rfl .u8 v15.heap.size 5 1 Try.underlying23 Try.infoU8 (vs 1) X [rf + 128, 49] (evA (j := 1) hA.symm (by kernel_rfl) (by kernel_rfl)) k1 (vs 6) (evA (j := 6) hA.symm (by kernel_rfl) (by kernel_rfl)) k6 (by have := HLR.out; unfold maxLen; simp; omega) (by have := HLR.out; simp; omega) hs3 ?_
        intro v7 v4 ho7 hg7 hb7 hn7
        refine goesOn_normal (any_facts (m0 := 8) (fuel := 0) [readO v15.heap.size [] (k : Int) 13, readO v15.heap.size [] (k : Int) 13, ownV .i64 3 v15.heap.size [], isV (.int .i64 (k : Int)), isV (.int .i64 13), ownV .i64 3 v15.heap.size [], isV (.int .i64 (k : Int)), isV (.int .i64 13)] (by kernel_rfl) (obls_cons ?_ (obls_cons ?_ (obls_cons ?_ (obls_cons ?_ (obls_cons ?_ (obls_cons ?_ (obls_cons ?_ (obls_cons ?_ obls_nil)))))))) ?_)
        · intro vs2 A2 w' hA2 hb hd
          have e0 : A2.eval (.tmp 154) = v7 := (ev0A hA2 (by kernel_rfl)).trans (put_at hsz (by kernel_rfl))
          refine fact_call rfl (exec_callF (args := [v7]) rfl (by simp only [List.map_cons, List.map_nil]; rw [e0]) Try.func13 (by kernel_rfl) rfl) ((G4.out v7 w' (ho7.sl.below hb)).mono ?_)
          rintro e w'' ⟨x, rfl, h1, h2⟩
          exact ⟨_, rfl, ⟨x, rfl, h1.mono (Nat.le_trans hs3 (Nat.le_trans hg7.size hb.size))⟩, h2⟩
        · intro vs2 A2 w' hA2 hb hd
          have h0 := hd 8 (by omega) (by kernel_rfl)
          exact fact_val rfl (exec_moveF rfl (evS (j := 8) (size_put hsz) hA2 (by kernel_rfl) (by kernel_rfl))) h0
        · intro vs2 A2 w' hA2 hb hd
          obtain ⟨x, h0, h1⟩ := hd 9 (by omega) (by kernel_rfl)
          exact fact_val rfl (exec_extract rfl ((evS (j := 9) (size_put hsz) hA2 (by kernel_rfl) (by kernel_rfl)).trans h0) rfl) h1
        · intro vs2 A2 w' hA2 hb hd
          obtain ⟨x, h0, h1⟩ := hd 9 (by omega) (by kernel_rfl)
          exact fact_val rfl (exec_extract rfl ((evS (j := 9) (size_put hsz) hA2 (by kernel_rfl) (by kernel_rfl)).trans h0) rfl) rfl
        · intro vs2 A2 w' hA2 hb hd
          obtain ⟨x, h0, h1⟩ := hd 9 (by omega) (by kernel_rfl)
          exact fact_val rfl (exec_extract rfl ((evS (j := 9) (size_put hsz) hA2 (by kernel_rfl) (by kernel_rfl)).trans h0) rfl) rfl
        · intro vs2 A2 w' hA2 hb hd
          have h0 := hd 10 (by omega) (by kernel_rfl)
          exact fact_val rfl (exec_assign rfl (evS (j := 10) (size_put hsz) hA2 (by kernel_rfl) (by kernel_rfl))) h0
        · intro vs2 A2 w' hA2 hb hd
          have e0v : vs2 11 = .int .i64 (k : Int) := hd 11 (by omega) (by kernel_rfl)
          have e0 : A2.eval (.tmp 157) = .int .i64 (k : Int) := (evS (j := 11) (size_put hsz) hA2 (by kernel_rfl) (by kernel_rfl)).trans e0v
          exact fact_val rfl (exec_assign rfl e0) rfl
        · intro vs2 A2 w' hA2 hb hd
          have e0v : vs2 12 = .int .i64 13 := hd 12 (by omega) (by kernel_rfl)
          have e0 : A2.eval (.tmp 158) = .int .i64 13 := (evS (j := 12) (size_put hsz) hA2 (by kernel_rfl) (by kernel_rfl)).trans e0v
          exact fact_val rfl (exec_assign rfl e0) rfl
        intro vs2 v16 hb5 hk
        obtain ⟨-, -, -, -, -, ka0, kb0, kc0, -⟩ := hk
        refine any_over rfl ?_
        have hs4 : v15.heap.size ≤ v4.heap.size := Nat.le_trans hs3 hg7.size
        have hV5 : Below v15.heap.size v15 v16 := ((((Below.refl v15.heap.size v15).drew).trans hb3).trans hb7).trans (hb5.mono hs4)
        have HB_v16 := hid (HB_v15.out.trans (hV5.mono HB_v15.out.size))
        have OB_v16 := hid (OB_v15.out.below hV5)
        have OT_v16 := hid (OT_v15.out.below hV5)
        have HX_v16 := hid (HX_v15.out.below hV5 HX_v15.out.lt)
        have TT_v16 := hid (TT_v15.out.below hV5)
        have ka : Own .i64 3 v15.heap.size v16 (vs2 13) [] := ka0
        have kb : vs2 14 = .int .i64 (k : Int) := kb0
        have kc : vs2 15 = .int .i64 13 := kc0
        subst hA
        simp only [upTo, dstOf, Act.put, List.getElem?_toArray, List.getElem?_cons_zero, List.getElem?_cons_succ, Option.bind_some, List.setIfInBounds_toArray, List.set_cons_zero, List.set_cons_succ, Nat.reduceLeDiff, Nat.reduceAdd, Nat.le_refl, Nat.zero_le, if_true, if_false, List.length_cons, List.length_nil]
        rw [kb, kc]
        obtain ⟨sa4, sc4, hv8⟩ := ka.sl.form
        have SS4 := hid ka
        obtain ⟨sn4, hsn⟩ : ∃ q, q = ([] : List Int).length := ⟨_, rfl⟩
        rw [← hsn] at hv8
        rw [hv8] at SS4 ⊢
        have HSN4 := hid hsn
        clear hsn hv8
        generalize vs 0 = p4_0
        generalize vs 1 = p4_1
        generalize vs 2 = p4_2
        generalize vs 3 = p4_3
        generalize vs 4 = p4_4
        generalize vs 5 = p4_5
        generalize vs 6 = p4_6
        generalize vs2 8 = q4_8
        generalize vs2 9 = q4_9
        generalize vs2 10 = q4_10
        generalize vs2 11 = q4_11
        generalize vs2 12 = q4_12
        clear ka kb kc ka0 kb0 kc0 hb5 hb7 hg7 hn7 ho7 k1 k10 k6 k60 hb3 HY y0 hs4 hs3 hV5 hsz
        clear OB_v15 OT_v15 HX_v15 HB_v15 vs vs2
        clear TT_v15 SS4
        have HWV := hid HB_v16.out.size
        have hkk2 : ((k : Int) == (k : Int)) = true := by simp
        have x2 := HX_v16.out.cell 2
        simp only [List.getElem?_cons_zero, List.getElem?_cons_succ] at x2
        go_wp2_with (first
          | (have _u := HB_t4; clear _u; go_at_call 12; refine (HW.out _).mono ?_; rintro e t5 ⟨rfl, hb5⟩; have HB_t5 := hid (HB_t4.out.trans (hb5.mono HB_t4.out.size)); clear hb5)
          | (have _u := HB_t3; clear _u; go_at_call 14; refine (keepInts _ _ (X ++ [rv]) (X ++ [rv]) _ TT_t3.out.sl HO_t3.out.sl).mono ?_; rw [eqL_self]; rintro e t4 ⟨rfl, n4, hw4⟩; have HB_t4 := hid (show Below W.heap.size W t4 from by rw [hw4]; exact below_drewN' HB_t3.out n4); clear hw4)
          | (at_builtin; go_loud (refine wpList_guarded (by rfl) ?_; refine wpList_app _ rfl _ _ 22 rfl .i64 W.heap.size 3 8 Try.underlying22 Try.infoI64 _ X [rv] rfl (OT_v16.out.alloc _) _ rfl (lit_sl (by first | simp | rfl) rfl rfl (by simp)) (by have := HLR.out; unfold maxLen; simp only [List.length_cons, List.length_nil]; omega) (by have := HLR.out; simp only [List.length_cons, List.length_nil]; omega) (by have := HWV.out; simp; omega) ?_); intro v6 t3 ho6 hg6 hb6 hn6; have HO_t3 := hid ho6; have TT_t3 := hid ((TT_v16.out.alloc _).apart (fun r hr => Nat.lt_of_lt_of_le (HLT.out r hr) (Nat.le_refl _)) hg6); have HB_t3 := hid ((HB_v16.out.alloc HB_v16.out.size _).trans hb6); clear ho6 hb6 hg6 hn6))
        go_ret
        exact ⟨rfl, HB0.out.trans (HB_t5.out.mono HB0.out.size)⟩
      | false =>
        have G1 := hid (fun v w (hs : Sl .u8 w v (X ++ [rf + 128, C])) => (show Calls Try.prog 13 #[v] w fun e w' => ∃ x, e = .returned (.tuple #[x, .int .i64 (k : Int), .int .i64 13]) ∧ Own .i64 3 w.heap.size w' x [] ∧ Below w.heap.size w w' from by
          have h1 := HR v (X ++ [rf + 128, C]) w hs (hXu.append (by intro y hy; simp only [List.mem_cons, List.not_mem_nil, or_false] at hy; omega)) (by have := HLR.out; rw [List.length_append]; simp; omega)
          rw [hG1] at h1
          exact h1))
        clear hG1 hXu HR HP HH
        have x1 := HX_wr.out.cell 1
        simp only [List.getElem?_cons_zero, List.getElem?_cons_succ] at x1
        go_upto_region 11 with (go_at_call 22; refine (HP2.out _).mono ?_; rintro e v1 ⟨rfl, hb1⟩; have HB_v1 := hid (HB_wr.out.trans (hb1.mono HB_wr.out.size)); have OB_v1 := hid (hob.out.below hb1); have OT_v1 := hid (hot.out.below hb1); have HX_v1 := hid (HX_wr.out.below hb1 HX_wr.out.lt); clear hb1)
        clear hob hot HX_wr HB_wr HX0 hbel HP2 x1
        have y0 := HX_v1.out.cell 0
        simp only [List.getElem?_cons_zero] at y0
        have HY := hid (fun w' (hb : Below v1.drew.heap.size v1.drew w') => (show w'.cell? ⟨B, 0, none⟩ = some (.int .i64 rf) from (hb.cell HX_v1.out.lt).trans y0))
        refine region_facts [isV (.slice ba k bc), ownV .u8 5 v1.heap.size X, isV (.pointer (some ⟨B, 0, none⟩)), isV (.int .i64 rf), isV (.int .i64 (rf + 128)), isV (.int .u8 (rf + 128)), isV (.int .i64 C), isV (.int .u8 (C)), slV .u8 [rf + 128, C]] 9 (by kernel_rfl) (by kernel_rfl) (by kernel_rfl) (obls_cons ?_ (obls_cons ?_ (obls_cons ?_ (obls_cons ?_ (obls_cons ?_ (obls_cons ?_ (obls_cons ?_ (obls_cons ?_ (obls_cons ?_ obls_nil))))))))) ?_
        · intro vs A w' hA hb hd
          have e0 : A.eval (.tmp 9) = .slice ba k bc := (ev0A hA (by kernel_rfl))
          exact fact_val rfl (exec_moveF rfl e0) rfl
        · intro vs A w' hA hb hd
          have e0v : vs 0 = .slice ba k bc := hd 0 (by omega) (by kernel_rfl)
          have e0 : A.eval (.tmp 73) = .slice ba k bc := (evA (j := 0) hA (by kernel_rfl) (by kernel_rfl)).trans e0v
          refine fact_call rfl (exec_callF (args := [.slice ba k bc]) rfl (by simp only [List.map_cons, List.map_nil]; rw [e0]) Try.func19 (by kernel_rfl) rfl) ((keepTwin _ X w' (OB_v1.out.sl.below (((Below.refl v1.heap.size v1).drew).trans hb)) (by have := HLR.out; omega)).mono ?_)
          rintro e w'' ⟨x, rfl, h1, h2⟩
          exact ⟨x, rfl, h1.mono hb.size, h2⟩
        · intro vs A w' hA hb hd
          have e0 : A.eval (.tmp 8) = .pointer (some ⟨B, 0, none⟩) := (ev0A hA (by kernel_rfl))
          exact fact_val rfl (exec_indexF rfl e0 rfl (by kernel_rfl)) rfl
        · intro vs A w' hA hb hd
          have e0v : vs 2 = .pointer (some ⟨B, 0, none⟩) := hd 2 (by omega) (by kernel_rfl)
          have e0 : A.eval (.tmp 75) = .pointer (some ⟨B, 0, none⟩) := (evA (j := 2) hA (by kernel_rfl) (by kernel_rfl)).trans e0v
          exact fact_val rfl (exec_int rfl e0 (HY w' hb)) rfl
        · intro vs A w' hA hb hd
          have e0v : vs 3 = .int .i64 rf := hd 3 (by omega) (by kernel_rfl)
          have e0 : A.eval (.tmp 76) = .int .i64 rf := (evA (j := 3) hA (by kernel_rfl) (by kernel_rfl)).trans e0v
          refine fact_val rfl (exec_binF rfl e0 rfl ?_) rfl
          go_simp
          simp only [IntKind.wrap, IntKind.bits, IntKind.signed]; simp; omega
        · intro vs A w' hA hb hd
          have e0v : vs 4 = .int .i64 (rf + 128) := hd 4 (by omega) (by kernel_rfl)
          have e0 : A.eval (.tmp 77) = .int .i64 (rf + 128) := (evA (j := 4) hA (by kernel_rfl) (by kernel_rfl)).trans e0v
          refine fact_val rfl (exec_convF rfl e0 ?_) rfl
          go_simp
          simp only [IntKind.wrap, IntKind.bits, IntKind.signed]; simp; omega
        · intro vs A w' hA hb hd
          have e0 : A.eval (.tmp 1) = .int .i64 C := (ev0A hA (by kernel_rfl))
          exact fact_val rfl (exec_moveF rfl e0) rfl
        · intro vs A w' hA hb hd
          have e0v : vs 6 = .int .i64 C := hd 6 (by omega) (by kernel_rfl)
          have e0 : A.eval (.tmp 79) = .int .i64 C := (evA (j := 6) hA (by kernel_rfl) (by kernel_rfl)).trans e0v
          refine fact_val rfl (exec_convF rfl e0 ?_) rfl
          go_simp
          simp only [IntKind.wrap, IntKind.bits, IntKind.signed]; simp; omega
        · intro vs A w' hA hb hd
          have e0v : vs 5 = .int .u8 (rf + 128) := hd 5 (by omega) (by kernel_rfl)
          have e0 : A.eval (.tmp 78) = .int .u8 (rf + 128) := (evA (j := 5) hA (by kernel_rfl) (by kernel_rfl)).trans e0v
          have e1v : vs 7 = .int .u8 (C) := hd 7 (by omega) (by kernel_rfl)
          have e1 : A.eval (.tmp 80) = .int .u8 (C) := (evA (j := 7) hA (by kernel_rfl) (by kernel_rfl)).trans e1v
          exact fact_new rfl (exec_lit (xs := [rf + 128, C]) rfl Try.underlying23 Try.infoU8 (by simp only [List.map_cons, List.map_nil]; rw [e0, e1]; rfl) rfl (by decide) (by decide)) (by (repeat (first | exact Below.refl _ _ | exact below_drewN _ | refine Below.drew ?_ | refine Below.alloc ?_ (by simp) _ | refine Below.setCell ?_ (by simp) _ | refine below_drewN' ?_ _))) (lit_sl rfl rfl rfl (by simp))
        intro vs v3 hb3 hk
        obtain ⟨-, k10, -, -, -, -, -, -, k80, -⟩ := hk
        have k1 : Own .u8 5 v1.heap.size v3 (vs 1) X := k10
        have k8 : Sl .u8 v3 (vs 8) [rf + 128, C] := k80
        refine any_step rfl (by kernel_rfl) ?_
        have hs3 : v1.heap.size ≤ v3.heap.size := hb3.size
        generalize hA : upTo _ 0 _ vs _ = A
        have hsz : A.tmps.size = 191 := size_upTo (by kernel_rfl) hA.symm
        refine wpList_app v3 rfl (.tmp 74) (.tmp 81) 23 rfl .u8 v1.heap.size 5 1 Try.underlying23 Try.infoU8 (vs 1) X [rf + 128, C] (evA (j := 1) hA.symm (by kernel_rfl) (by kernel_rfl)) k1 (vs 8) (evA (j := 8) hA.symm (by kernel_rfl) (by kernel_rfl)) k8 (by have := HLR.out; unfold maxLen; simp; omega) (by have := HLR.out; simp; omega) hs3 ?_
        intro v7 v4 ho7 hg7 hb7 hn7
        refine goesOn_normal (any_facts (m0 := 10) (fuel := 0) [readO v1.heap.size [] (k : Int) 13, readO v1.heap.size [] (k : Int) 13, ownV .i64 3 v1.heap.size [], isV (.int .i64 (k : Int)), isV (.int .i64 13), ownV .i64 3 v1.heap.size [], isV (.int .i64 (k : Int)), isV (.int .i64 13)] (by kernel_rfl) (obls_cons ?_ (obls_cons ?_ (obls_cons ?_ (obls_cons ?_ (obls_cons ?_ (obls_cons ?_ (obls_cons ?_ (obls_cons ?_ obls_nil)))))))) ?_)
        · intro vs2 A2 w' hA2 hb hd
          have e0 : A2.eval (.tmp 82) = v7 := (ev0A hA2 (by kernel_rfl)).trans (put_at hsz (by kernel_rfl))
          refine fact_call rfl (exec_callF (args := [v7]) rfl (by simp only [List.map_cons, List.map_nil]; rw [e0]) Try.func13 (by kernel_rfl) rfl) ((G1.out v7 w' (ho7.sl.below hb)).mono ?_)
          rintro e w'' ⟨x, rfl, h1, h2⟩
          exact ⟨_, rfl, ⟨x, rfl, h1.mono (Nat.le_trans hs3 (Nat.le_trans hg7.size hb.size))⟩, h2⟩
        · intro vs2 A2 w' hA2 hb hd
          have h0 := hd 10 (by omega) (by kernel_rfl)
          exact fact_val rfl (exec_moveF rfl (evS (j := 10) (size_put hsz) hA2 (by kernel_rfl) (by kernel_rfl))) h0
        · intro vs2 A2 w' hA2 hb hd
          obtain ⟨x, h0, h1⟩ := hd 11 (by omega) (by kernel_rfl)
          exact fact_val rfl (exec_extract rfl ((evS (j := 11) (size_put hsz) hA2 (by kernel_rfl) (by kernel_rfl)).trans h0) rfl) h1
        · intro vs2 A2 w' hA2 hb hd
          obtain ⟨x, h0, h1⟩ := hd 11 (by omega) (by kernel_rfl)
          exact fact_val rfl (exec_extract rfl ((evS (j := 11) (size_put hsz) hA2 (by kernel_rfl) (by kernel_rfl)).trans h0) rfl) rfl
        · intro vs2 A2 w' hA2 hb hd
          obtain ⟨x, h0, h1⟩ := hd 11 (by omega) (by kernel_rfl)
          exact fact_val rfl (exec_extract rfl ((evS (j := 11) (size_put hsz) hA2 (by kernel_rfl) (by kernel_rfl)).trans h0) rfl) rfl
        · intro vs2 A2 w' hA2 hb hd
          have h0 := hd 12 (by omega) (by kernel_rfl)
          exact fact_val rfl (exec_assign rfl (evS (j := 12) (size_put hsz) hA2 (by kernel_rfl) (by kernel_rfl))) h0
        · intro vs2 A2 w' hA2 hb hd
          have e0v : vs2 13 = .int .i64 (k : Int) := hd 13 (by omega) (by kernel_rfl)
          have e0 : A2.eval (.tmp 85) = .int .i64 (k : Int) := (evS (j := 13) (size_put hsz) hA2 (by kernel_rfl) (by kernel_rfl)).trans e0v
          exact fact_val rfl (exec_assign rfl e0) rfl
        · intro vs2 A2 w' hA2 hb hd
          have e0v : vs2 14 = .int .i64 13 := hd 14 (by omega) (by kernel_rfl)
          have e0 : A2.eval (.tmp 86) = .int .i64 13 := (evS (j := 14) (size_put hsz) hA2 (by kernel_rfl) (by kernel_rfl)).trans e0v
          exact fact_val rfl (exec_assign rfl e0) rfl
        intro vs2 v11 hb5 hk
        obtain ⟨-, -, -, -, -, ka0, kb0, kc0, -⟩ := hk
        refine any_over rfl ?_
        have hs4 : v1.heap.size ≤ v4.heap.size := Nat.le_trans hs3 hg7.size
        have hV5 : Below v1.heap.size v1 v11 := ((((Below.refl v1.heap.size v1).drew).trans hb3).trans hb7).trans (hb5.mono hs4)
        have HB_v11 := hid (HB_v1.out.trans (hV5.mono HB_v1.out.size))
        have OB_v11 := hid (OB_v1.out.below hV5)
        have OT_v11 := hid (OT_v1.out.below hV5)
        have HX_v11 := hid (HX_v1.out.below hV5 HX_v1.out.lt)
        have ka : Own .i64 3 v1.heap.size v11 (vs2 15) [] := ka0
        have kb : vs2 16 = .int .i64 (k : Int) := kb0
        have kc : vs2 17 = .int .i64 13 := kc0
        subst hA
        simp only [upTo, dstOf, Act.put, List.getElem?_toArray, List.getElem?_cons_zero, List.getElem?_cons_succ, Option.bind_some, List.setIfInBounds_toArray, List.set_cons_zero, List.set_cons_succ, Nat.reduceLeDiff, Nat.reduceAdd, Nat.le_refl, Nat.zero_le, if_true, if_false, List.length_cons, List.length_nil]
        rw [kb, kc]
        obtain ⟨sa1, sc1, hv8⟩ := ka.sl.form
        have SS1 := hid ka
        obtain ⟨sn1, hsn⟩ : ∃ q, q = ([] : List Int).length := ⟨_, rfl⟩
        rw [← hsn] at hv8
        rw [hv8] at SS1 ⊢
        have HSN1 := hid hsn
        clear hsn hv8
        generalize vs 0 = p1_0
        generalize vs 1 = p1_1
        generalize vs 2 = p1_2
        generalize vs 3 = p1_3
        generalize vs 4 = p1_4
        generalize vs 5 = p1_5
        generalize vs 6 = p1_6
        generalize vs 7 = p1_7
        generalize vs 8 = p1_8
        generalize vs2 10 = q1_10
        generalize vs2 11 = q1_11
        generalize vs2 12 = q1_12
        generalize vs2 13 = q1_13
        generalize vs2 14 = q1_14
        clear ka kb kc ka0 kb0 kc0 hb5 hb7 hg7 hn7 ho7 k1 k10 k8 k80 hb3 HY y0 hs4 hs3 hV5 hsz
        clear OB_v1 OT_v1 HX_v1 HB_v1 vs vs2
        have hz1 : sn1 = 0 := HSN1.out
        have hkk : ((k : Int) != (k : Int)) = false := by simp
        go_upto_region 14 with (fail)
        have HLT := hid (fun r hr => (World.ownsRow.lt OT_v11.out r hr).2)
        have y0 := HX_v11.out.cell 0
        simp only [List.getElem?_cons_zero] at y0
        have HY := hid (fun w' (hb : Below v11.drew.heap.size v11.drew w') => (show w'.cell? ⟨B, 0, none⟩ = some (.int .i64 rf) from (hb.cell HX_v11.out.lt).trans y0))
        refine region_facts [isV (.slice ba k bc), ownV .u8 5 v11.heap.size X, isV (.pointer (some ⟨B, 0, none⟩)), isV (.int .i64 rf), isV (.int .i64 (rf + 128)), isV (.int .u8 (rf + 128)), slV .u8 [rf + 128, 32]] 9 (by kernel_rfl) (by kernel_rfl) (by kernel_rfl) (obls_cons ?_ (obls_cons ?_ (obls_cons ?_ (obls_cons ?_ (obls_cons ?_ (obls_cons ?_ (obls_cons ?_ obls_nil))))))) ?_
        · intro vs A w' hA hb hd
          have e0 : A.eval (.tmp 9) = .slice ba k bc := (ev0A hA (by kernel_rfl))
          exact fact_val rfl (exec_moveF rfl e0) rfl
        · intro vs A w' hA hb hd
          have e0v : vs 0 = .slice ba k bc := hd 0 (by omega) (by kernel_rfl)
          have e0 : A.eval (.tmp 121) = .slice ba k bc := (evA (j := 0) hA (by kernel_rfl) (by kernel_rfl)).trans e0v
          refine fact_call rfl (exec_callF (args := [.slice ba k bc]) rfl (by simp only [List.map_cons, List.map_nil]; rw [e0]) Try.func19 (by kernel_rfl) rfl) ((keepTwin _ X w' (OB_v11.out.sl.below (((Below.refl v11.heap.size v11).drew).trans hb)) (by have := HLR.out; omega)).mono ?_)
          rintro e w'' ⟨x, rfl, h1, h2⟩
          exact ⟨x, rfl, h1.mono hb.size, h2⟩
        · intro vs A w' hA hb hd
          have e0 : A.eval (.tmp 8) = .pointer (some ⟨B, 0, none⟩) := (ev0A hA (by kernel_rfl))
          exact fact_val rfl (exec_indexF rfl e0 rfl (by kernel_rfl)) rfl
        · intro vs A w' hA hb hd
          have e0v : vs 2 = .pointer (some ⟨B, 0, none⟩) := hd 2 (by omega) (by kernel_rfl)
          have e0 : A.eval (.tmp 123) = .pointer (some ⟨B, 0, none⟩) := (evA (j := 2) hA (by kernel_rfl) (by kernel_rfl)).trans e0v
          exact fact_val rfl (exec_int rfl e0 (HY w' hb)) rfl
        · intro vs A w' hA hb hd
          have e0v : vs 3 = .int .i64 rf := hd 3 (by omega) (by kernel_rfl)
          have e0 : A.eval (.tmp 124) = .int .i64 rf := (evA (j := 3) hA (by kernel_rfl) (by kernel_rfl)).trans e0v
          refine fact_val rfl (exec_binF rfl e0 rfl ?_) rfl
          go_simp
          simp only [IntKind.wrap, IntKind.bits, IntKind.signed]; simp; omega
        · intro vs A w' hA hb hd
          have e0v : vs 4 = .int .i64 (rf + 128) := hd 4 (by omega) (by kernel_rfl)
          have e0 : A.eval (.tmp 125) = .int .i64 (rf + 128) := (evA (j := 4) hA (by kernel_rfl) (by kernel_rfl)).trans e0v
          refine fact_val rfl (exec_convF rfl e0 ?_) rfl
          go_simp
          simp only [IntKind.wrap, IntKind.bits, IntKind.signed]; simp; omega
        · intro vs A w' hA hb hd
          have e0v : vs 5 = .int .u8 (rf + 128) := hd 5 (by omega) (by kernel_rfl)
          have e0 : A.eval (.tmp 126) = .int .u8 (rf + 128) := (evA (j := 5) hA (by kernel_rfl) (by kernel_rfl)).trans e0v
          exact fact_new rfl (exec_lit (xs := [rf + 128, 32]) rfl Try.underlying23 Try.infoU8 (by simp only [List.map_cons, List.map_nil]; rw [e0]; rfl) rfl (by decide) (by decide)) (by (repeat (first | exact Below.refl _ _ | exact below_drewN _ | refine Below.drew ?_ | refine Below.alloc ?_ (by simp) _ | refine Below.setCell ?_ (by simp) _ | refine below_drewN' ?_ _))) (lit_sl rfl rfl rfl (by simp))
        intro vs v3 hb3 hk
        obtain ⟨-, k10, -, -, -, -, k60, -⟩ := hk
        have k1 : Own .u8 5 v11.heap.size v3 (vs 1) X := k10
        have k6 : Sl .u8 v3 (vs 6) [rf + 128, 32] := k60
        refine any_step rfl (by kernel_rfl) ?_
        have hs3 : v11.heap.size ≤ v3.heap.size := hb3.size
        generalize hA : upTo _ 0 _ vs _ = A
        have hsz : A.tmps.size = 191 := size_upTo (by kernel_rfl) hA.symm
        refine wpList_app v3 rfl (.tmp 122) (.tmp 127) 23 rfl .u8 v11.heap.size 5 1 Try.underlying23 Try.infoU8 (vs 1) X [rf + 128, 32] (evA (j := 1) hA.symm (by kernel_rfl) (by kernel_rfl)) k1 (vs 6) (evA (j := 6) hA.symm (by kernel_rfl) (by kernel_rfl)) k6 (by have := HLR.out; unfold maxLen; simp; omega) (by have := HLR.out; simp; omega) hs3 ?_
        intro v7 v4 ho7 hg7 hb7 hn7
        refine goesOn_normal (any_facts (m0 := 8) (fuel := 0) [readO v11.heap.size (X ++ [rv]) 0 0, readO v11.heap.size (X ++ [rv]) 0 0, ownV .i64 3 v11.heap.size (X ++ [rv]), isV (.int .i64 0), isV (.int .i64 0), ownV .i64 3 v11.heap.size (X ++ [rv]), isV (.int .i64 0), isV (.int .i64 0)] (by kernel_rfl) (obls_cons ?_ (obls_cons ?_ (obls_cons ?_ (obls_cons ?_ (obls_cons ?_ (obls_cons ?_ (obls_cons ?_ (obls_cons ?_ obls_nil)))))))) ?_)
        · intro vs2 A2 w' hA2 hb hd
          have e0 : A2.eval (.tmp 128) = v7 := (ev0A hA2 (by kernel_rfl)).trans (put_at hsz (by kernel_rfl))
          refine fact_call rfl (exec_callF (args := [v7]) rfl (by simp only [List.map_cons, List.map_nil]; rw [e0]) Try.func13 (by kernel_rfl) rfl) ((G2.out v7 w' (ho7.sl.below hb)).mono ?_)
          rintro e w'' ⟨x, rfl, h1, h2⟩
          exact ⟨_, rfl, ⟨x, rfl, h1.mono (Nat.le_trans hs3 (Nat.le_trans hg7.size hb.size))⟩, h2⟩
        · intro vs2 A2 w' hA2 hb hd
          have h0 := hd 8 (by omega) (by kernel_rfl)
          exact fact_val rfl (exec_moveF rfl (evS (j := 8) (size_put hsz) hA2 (by kernel_rfl) (by kernel_rfl))) h0
        · intro vs2 A2 w' hA2 hb hd
          obtain ⟨x, h0, h1⟩ := hd 9 (by omega) (by kernel_rfl)
          exact fact_val rfl (exec_extract rfl ((evS (j := 9) (size_put hsz) hA2 (by kernel_rfl) (by kernel_rfl)).trans h0) rfl) h1
        · intro vs2 A2 w' hA2 hb hd
          obtain ⟨x, h0, h1⟩ := hd 9 (by omega) (by kernel_rfl)
          exact fact_val rfl (exec_extract rfl ((evS (j := 9) (size_put hsz) hA2 (by kernel_rfl) (by kernel_rfl)).trans h0) rfl) rfl
        · intro vs2 A2 w' hA2 hb hd
          obtain ⟨x, h0, h1⟩ := hd 9 (by omega) (by kernel_rfl)
          exact fact_val rfl (exec_extract rfl ((evS (j := 9) (size_put hsz) hA2 (by kernel_rfl) (by kernel_rfl)).trans h0) rfl) rfl
        · intro vs2 A2 w' hA2 hb hd
          have h0 := hd 10 (by omega) (by kernel_rfl)
          exact fact_val rfl (exec_assign rfl (evS (j := 10) (size_put hsz) hA2 (by kernel_rfl) (by kernel_rfl))) h0
        · intro vs2 A2 w' hA2 hb hd
          have e0v : vs2 11 = .int .i64 0 := hd 11 (by omega) (by kernel_rfl)
          have e0 : A2.eval (.tmp 131) = .int .i64 0 := (evS (j := 11) (size_put hsz) hA2 (by kernel_rfl) (by kernel_rfl)).trans e0v
          exact fact_val rfl (exec_assign rfl e0) rfl
        · intro vs2 A2 w' hA2 hb hd
          have e0v : vs2 12 = .int .i64 0 := hd 12 (by omega) (by kernel_rfl)
          have e0 : A2.eval (.tmp 132) = .int .i64 0 := (evS (j := 12) (size_put hsz) hA2 (by kernel_rfl) (by kernel_rfl)).trans e0v
          exact fact_val rfl (exec_assign rfl e0) rfl
        intro vs2 v14 hb5 hk
        obtain ⟨-, -, -, -, -, ka0, kb0, kc0, -⟩ := hk
        refine any_over rfl ?_
        have hs4 : v11.heap.size ≤ v4.heap.size := Nat.le_trans hs3 hg7.size
        have hV5 : Below v11.heap.size v11 v14 := ((((Below.refl v11.heap.size v11).drew).trans hb3).trans hb7).trans (hb5.mono hs4)
        have HB_v14 := hid (HB_v11.out.trans (hV5.mono HB_v11.out.size))
        have OB_v14 := hid (OB_v11.out.below hV5)
        have OT_v14 := hid (OT_v11.out.below hV5)
        have HX_v14 := hid (HX_v11.out.below hV5 HX_v11.out.lt)
        have ka : Own .i64 3 v11.heap.size v14 (vs2 13) (X ++ [rv]) := ka0
        have kb : vs2 14 = .int .i64 0 := kb0
        have kc : vs2 15 = .int .i64 0 := kc0
        subst hA
        simp only [upTo, dstOf, Act.put, List.getElem?_toArray, List.getElem?_cons_zero, List.getElem?_cons_succ, Option.bind_some, List.setIfInBounds_toArray, List.set_cons_zero, List.set_cons_succ, Nat.reduceLeDiff, Nat.reduceAdd, Nat.le_refl, Nat.zero_le, if_true, if_false, List.length_cons, List.length_nil]
        rw [kb, kc]
        obtain ⟨sa2, sc2, hv8⟩ := ka.sl.form
        have SS2 := hid ka
        obtain ⟨sn2, hsn⟩ : ∃ q, q = ((X ++ [rv]) : List Int).length := ⟨_, rfl⟩
        rw [← hsn] at hv8
        rw [hv8] at SS2 ⊢
        have HSN2 := hid hsn
        clear hsn hv8
        generalize vs 0 = p2_0
        generalize vs 1 = p2_1
        generalize vs 2 = p2_2
        generalize vs 3 = p2_3
        generalize vs 4 = p2_4
        generalize vs 5 = p2_5
        generalize vs 6 = p2_6
        generalize vs2 8 = q2_8
        generalize vs2 9 = q2_9
        generalize vs2 10 = q2_10
        generalize vs2 11 = q2_11
        generalize vs2 12 = q2_12
        clear ka kb kc ka0 kb0 kc0 hb5 hb7 hg7 hn7 ho7 k1 k10 k6 k60 hb3 HY y0 hs4 hs3 hV5 hsz
        clear OB_v11 OT_v11 HX_v11 HB_v11 vs vs2
        have TT_v14 := SS2
        clear SS2
        go_upto_region 15 with (fail)
        have y0 := HX_v14.out.cell 0
        simp only [List.getElem?_cons_zero] at y0
        have HY := hid (fun w' (hb : Below v14.drew.heap.size v14.drew w') => (show w'.cell? ⟨B, 0, none⟩ = some (.int .i64 rf) from (hb.cell HX_v14.out.lt).trans y0))
        refine region_facts [isV (.slice ba k bc), ownV .u8 5 v14.heap.size X, isV (.pointer (some ⟨B, 0, none⟩)), isV (.int .i64 rf), isV (.int .i64 (rf + 128)), isV (.int .u8 (rf + 128)), slV .u8 [rf + 128]] 9 (by kernel_rfl) (by kernel_rfl) (by kernel_rfl) (obls_cons ?_ (obls_cons ?_ (obls_cons ?_ (obls_cons ?_ (obls_cons ?_ (obls_cons ?_ (obls_cons ?_ obls_nil))))))) ?_
        · intro vs A w' hA hb hd
          have e0 : A.eval (.tmp 9) = .slice ba k bc := (ev0A hA (by kernel_rfl))
          exact fact_val rfl (exec_moveF rfl e0) rfl
        · intro vs A w' hA hb hd
          have e0v : vs 0 = .slice ba k bc := hd 0 (by omega) (by kernel_rfl)
          have e0 : A.eval (.tmp 134) = .slice ba k bc := (evA (j := 0) hA (by kernel_rfl) (by kernel_rfl)).trans e0v
          refine fact_call rfl (exec_callF (args := [.slice ba k bc]) rfl (by simp only [List.map_cons, List.map_nil]; rw [e0]) Try.func19 (by kernel_rfl) rfl) ((keepTwin _ X w' (OB_v14.out.sl.below (((Below.refl v14.heap.size v14).drew).trans hb)) (by have := HLR.out; omega)).mono ?_)
          rintro e w'' ⟨x, rfl, h1, h2⟩
          exact ⟨x, rfl, h1.mono hb.size, h2⟩
        · intro vs A w' hA hb hd
          have e0 : A.eval (.tmp 8) = .pointer (some ⟨B, 0, none⟩) := (ev0A hA (by kernel_rfl))
          exact fact_val rfl (exec_indexF rfl e0 rfl (by kernel_rfl)) rfl
        · intro vs A w' hA hb hd
          have e0v : vs 2 = .pointer (some ⟨B, 0, none⟩) := hd 2 (by omega) (by kernel_rfl)
          have e0 : A.eval (.tmp 136) = .pointer (some ⟨B, 0, none⟩) := (evA (j := 2) hA (by kernel_rfl) (by kernel_rfl)).trans e0v
          exact fact_val rfl (exec_int rfl e0 (HY w' hb)) rfl
        · intro vs A w' hA hb hd
          have e0v : vs 3 = .int .i64 rf := hd 3 (by omega) (by kernel_rfl)
          have e0 : A.eval (.tmp 137) = .int .i64 rf := (evA (j := 3) hA (by kernel_rfl) (by kernel_rfl)).trans e0v
          refine fact_val rfl (exec_binF rfl e0 rfl ?_) rfl
          go_simp
          simp only [IntKind.wrap, IntKind.bits, IntKind.signed]; simp; omega
        · intro vs A w' hA hb hd
          have e0v : vs 4 = .int .i64 (rf + 128) := hd 4 (by omega) (by kernel_rfl)
          have e0 : A.eval (.tmp 138) = .int .i64 (rf + 128) := (evA (j := 4) hA (by kernel_rfl) (by kernel_rfl)).trans e0v
          refine fact_val rfl (exec_convF rfl e0 ?_) rfl
          go_simp
          simp only [IntKind.wrap, IntKind.bits, IntKind.signed]; simp; omega
        · intro vs A w' hA hb hd
          have e0v : vs 5 = .int .u8 (rf + 128) := hd 5 (by omega) (by kernel_rfl)
          have e0 : A.eval (.tmp 139) = .int .u8 (rf + 128) := (evA (j := 5) hA (by kernel_rfl) (by kernel_rfl)).trans e0v
          exact fact_new rfl (exec_lit (xs := [rf + 128]) rfl Try.underlying23 Try.infoU8 (by simp only [List.map_cons, List.map_nil]; rw [e0]; rfl) rfl (by decide) (by decide)) (by (repeat (first | exact Below.refl _ _ | exact below_drewN _ | refine Below.drew ?_ | refine Below.alloc ?_ (by simp) _ | refine Below.setCell ?_ (by simp) _ | refine below_drewN' ?_ _))) (lit_sl rfl rfl rfl (by simp))
        intro vs v3 hb3 hk
        obtain ⟨-, k10, -, -, -, -, k60, -⟩ := hk
        have k1 : Own .u8 5 v14.heap.size v3 (vs 1) X := k10
        have k6 : Sl .u8 v3 (vs 6) [rf + 128] := k60
        refine any_step rfl (by kernel_rfl) ?_
        have hs3 : v14.heap.size ≤ v3.heap.size := hb3.size
        generalize hA : upTo _ 0 _ vs _ = A
        have hsz : A.tmps.size = 191 := size_upTo (by kernel_rfl) hA.symm
        refine wpList_app v3 rfl (.tmp 135) (.tmp 140) 23 rfl .u8 v14.heap.size 5 1 Try.underlying23 Try.infoU8 (vs 1) X [rf + 128] (evA (j := 1) hA.symm (by kernel_rfl) (by kernel_rfl)) k1 (vs 6) (evA (j := 6) hA.symm (by kernel_rfl) (by kernel_rfl)) k6 (by have := HLR.out; unfold maxLen; simp; omega) (by have := HLR.out; simp; omega) hs3 ?_
        intro v7 v4 ho7 hg7 hb7 hn7
        refine goesOn_normal (any_facts (m0 := 8) (fuel := 0) [readO v14.heap.size [] (k : Int) 2, readO v14.heap.size [] (k : Int) 2, ownV .i64 3 v14.heap.size [], isV (.int .i64 (k : Int)), isV (.int .i64 2), ownV .i64 3 v14.heap.size [], isV (.int .i64 (k : Int)), isV (.int .i64 2)] (by kernel_rfl) (obls_cons ?_ (obls_cons ?_ (obls_cons ?_ (obls_cons ?_ (obls_cons ?_ (obls_cons ?_ (obls_cons ?_ (obls_cons ?_ obls_nil)))))))) ?_)
        · intro vs2 A2 w' hA2 hb hd
          have e0 : A2.eval (.tmp 141) = v7 := (ev0A hA2 (by kernel_rfl)).trans (put_at hsz (by kernel_rfl))
          refine fact_call rfl (exec_callF (args := [v7]) rfl (by simp only [List.map_cons, List.map_nil]; rw [e0]) Try.func13 (by kernel_rfl) rfl) ((G3.out v7 w' (ho7.sl.below hb)).mono ?_)
          rintro e w'' ⟨x, rfl, h1, h2⟩
          exact ⟨_, rfl, ⟨x, rfl, h1.mono (Nat.le_trans hs3 (Nat.le_trans hg7.size hb.size))⟩, h2⟩
        · intro vs2 A2 w' hA2 hb hd
          have h0 := hd 8 (by omega) (by kernel_rfl)
          exact fact_val rfl (exec_moveF rfl (evS (j := 8) (size_put hsz) hA2 (by kernel_rfl) (by kernel_rfl))) h0
        · intro vs2 A2 w' hA2 hb hd
          obtain ⟨x, h0, h1⟩ := hd 9 (by omega) (by kernel_rfl)
          exact fact_val rfl (exec_extract rfl ((evS (j := 9) (size_put hsz) hA2 (by kernel_rfl) (by kernel_rfl)).trans h0) rfl) h1
        · intro vs2 A2 w' hA2 hb hd
          obtain ⟨x, h0, h1⟩ := hd 9 (by omega) (by kernel_rfl)
          exact fact_val rfl (exec_extract rfl ((evS (j := 9) (size_put hsz) hA2 (by kernel_rfl) (by kernel_rfl)).trans h0) rfl) rfl
        · intro vs2 A2 w' hA2 hb hd
          obtain ⟨x, h0, h1⟩ := hd 9 (by omega) (by kernel_rfl)
          exact fact_val rfl (exec_extract rfl ((evS (j := 9) (size_put hsz) hA2 (by kernel_rfl) (by kernel_rfl)).trans h0) rfl) rfl
        · intro vs2 A2 w' hA2 hb hd
          have h0 := hd 10 (by omega) (by kernel_rfl)
          exact fact_val rfl (exec_assign rfl (evS (j := 10) (size_put hsz) hA2 (by kernel_rfl) (by kernel_rfl))) h0
        · intro vs2 A2 w' hA2 hb hd
          have e0v : vs2 11 = .int .i64 (k : Int) := hd 11 (by omega) (by kernel_rfl)
          have e0 : A2.eval (.tmp 144) = .int .i64 (k : Int) := (evS (j := 11) (size_put hsz) hA2 (by kernel_rfl) (by kernel_rfl)).trans e0v
          exact fact_val rfl (exec_assign rfl e0) rfl
        · intro vs2 A2 w' hA2 hb hd
          have e0v : vs2 12 = .int .i64 2 := hd 12 (by omega) (by kernel_rfl)
          have e0 : A2.eval (.tmp 145) = .int .i64 2 := (evS (j := 12) (size_put hsz) hA2 (by kernel_rfl) (by kernel_rfl)).trans e0v
          exact fact_val rfl (exec_assign rfl e0) rfl
        intro vs2 v15 hb5 hk
        obtain ⟨-, -, -, -, -, ka0, kb0, kc0, -⟩ := hk
        refine any_over rfl ?_
        have hs4 : v14.heap.size ≤ v4.heap.size := Nat.le_trans hs3 hg7.size
        have hV5 : Below v14.heap.size v14 v15 := ((((Below.refl v14.heap.size v14).drew).trans hb3).trans hb7).trans (hb5.mono hs4)
        have HB_v15 := hid (HB_v14.out.trans (hV5.mono HB_v14.out.size))
        have OB_v15 := hid (OB_v14.out.below hV5)
        have OT_v15 := hid (OT_v14.out.below hV5)
        have HX_v15 := hid (HX_v14.out.below hV5 HX_v14.out.lt)
        have TT_v15 := hid (TT_v14.out.below hV5)
        have ka : Own .i64 3 v14.heap.size v15 (vs2 13) [] := ka0
        have kb : vs2 14 = .int .i64 (k : Int) := kb0
        have kc : vs2 15 = .int .i64 2 := kc0
        subst hA
        simp only [upTo, dstOf, Act.put, List.getElem?_toArray, List.getElem?_cons_zero, List.getElem?_cons_succ, Option.bind_some, List.setIfInBounds_toArray, List.set_cons_zero, List.set_cons_succ, Nat.reduceLeDiff, Nat.reduceAdd, Nat.le_refl, Nat.zero_le, if_true, if_false, List.length_cons, List.length_nil]
        rw [kb, kc]
        obtain ⟨sa3, sc3, hv8⟩ := ka.sl.form
        have SS3 := hid ka
        obtain ⟨sn3, hsn⟩ : ∃ q, q = ([] : List Int).length := ⟨_, rfl⟩
        rw [← hsn] at hv8
        rw [hv8] at SS3 ⊢
        have HSN3 := hid hsn
        clear hsn hv8
        generalize vs 0 = p3_0
        generalize vs 1 = p3_1
        generalize vs 2 = p3_2
        generalize vs 3 = p3_3
        generalize vs 4 = p3_4
        generalize vs 5 = p3_5
        generalize vs 6 = p3_6
        generalize vs2 8 = q3_8
        generalize vs2 9 = q3_9
        generalize vs2 10 = q3_10
        generalize vs2 11 = q3_11
        generalize vs2 12 = q3_12
        clear ka kb kc ka0 kb0 kc0 hb5 hb7 hg7 hn7 ho7 k1 k10 k6 k60 hb3 HY y0 hs4 hs3 hV5 hsz
        clear OB_v14 OT_v14 HX_v14 HB_v14 vs vs2
        clear TT_v14 SS3
        go_upto_region 16 with (fail)
        have y0 := HX_v15.out.cell 0
        simp only [List.getElem?_cons_zero] at y0
        have HY := hid (fun w' (hb : Below v15.drew.heap.size v15.drew w') => (show w'.cell? ⟨B, 0, none⟩ = some (.int .i64 rf) from (hb.cell HX_v15.out.lt).trans y0))
        refine region_facts [isV (.slice ba k bc), ownV .u8 5 v15.heap.size X, isV (.pointer (some ⟨B, 0, none⟩)), isV (.int .i64 rf), isV (.int .i64 (rf + 128)), isV (.int .u8 (rf + 128)), slV .u8 [rf + 128, 49]] 9 (by kernel_rfl) (by kernel_rfl) (by kernel_rfl) (obls_cons ?_ (obls_cons ?_ (obls_cons ?_ (obls_cons ?_ (obls_cons ?_ (obls_cons ?_ (obls_cons ?_ obls_nil))))))) ?_
        · intro vs A w' hA hb hd
          have e0 : A.eval (.tmp 9) = .slice ba k bc := (ev0A hA (by kernel_rfl))
          exact fact_val rfl (exec_moveF rfl e0) rfl
        · intro vs A w' hA hb hd
          have e0v : vs 0 = .slice ba k bc := hd 0 (by omega) (by kernel_rfl)
          have e0 : A.eval (.tmp 147) = .slice ba k bc := (evA (j := 0) hA (by kernel_rfl) (by kernel_rfl)).trans e0v
          refine fact_call rfl (exec_callF (args := [.slice ba k bc]) rfl (by simp only [List.map_cons, List.map_nil]; rw [e0]) Try.func19 (by kernel_rfl) rfl) ((keepTwin _ X w' (OB_v15.out.sl.below (((Below.refl v15.heap.size v15).drew).trans hb)) (by have := HLR.out; omega)).mono ?_)
          rintro e w'' ⟨x, rfl, h1, h2⟩
          exact ⟨x, rfl, h1.mono hb.size, h2⟩
        · intro vs A w' hA hb hd
          have e0 : A.eval (.tmp 8) = .pointer (some ⟨B, 0, none⟩) := (ev0A hA (by kernel_rfl))
          exact fact_val rfl (exec_indexF rfl e0 rfl (by kernel_rfl)) rfl
        · intro vs A w' hA hb hd
          have e0v : vs 2 = .pointer (some ⟨B, 0, none⟩) := hd 2 (by omega) (by kernel_rfl)
          have e0 : A.eval (.tmp 149) = .pointer (some ⟨B, 0, none⟩) := (evA (j := 2) hA (by kernel_rfl) (by kernel_rfl)).trans e0v
          exact fact_val rfl (exec_int rfl e0 (HY w' hb)) rfl
        · intro vs A w' hA hb hd
          have e0v : vs 3 = .int .i64 rf := hd 3 (by omega) (by kernel_rfl)
          have e0 : A.eval (.tmp 150) = .int .i64 rf := (evA (j := 3) hA (by kernel_rfl) (by kernel_rfl)).trans e0v
          refine fact_val rfl (exec_binF rfl e0 rfl ?_) rfl
          go_simp
          simp only [IntKind.wrap, IntKind.bits, IntKind.signed]; simp; omega
        · intro vs A w' hA hb hd
          have e0v : vs 4 = .int .i64 (rf + 128) := hd 4 (by omega) (by kernel_rfl)
          have e0 : A.eval (.tmp 151) = .int .i64 (rf + 128) := (evA (j := 4) hA (by kernel_rfl) (by kernel_rfl)).trans e0v
          refine fact_val rfl (exec_convF rfl e0 ?_) rfl
          go_simp
          simp only [IntKind.wrap, IntKind.bits, IntKind.signed]; simp; omega
        · intro vs A w' hA hb hd
          have e0v : vs 5 = .int .u8 (rf + 128) := hd 5 (by omega) (by kernel_rfl)
          have e0 : A.eval (.tmp 152) = .int .u8 (rf + 128) := (evA (j := 5) hA (by kernel_rfl) (by kernel_rfl)).trans e0v
          exact fact_new rfl (exec_lit (xs := [rf + 128, 49]) rfl Try.underlying23 Try.infoU8 (by simp only [List.map_cons, List.map_nil]; rw [e0]; rfl) rfl (by decide) (by decide)) (by (repeat (first | exact Below.refl _ _ | exact below_drewN _ | refine Below.drew ?_ | refine Below.alloc ?_ (by simp) _ | refine Below.setCell ?_ (by simp) _ | refine below_drewN' ?_ _))) (lit_sl rfl rfl rfl (by simp))
        intro vs v3 hb3 hk
        obtain ⟨-, k10, -, -, -, -, k60, -⟩ := hk
        have k1 : Own .u8 5 v15.heap.size v3 (vs 1) X := k10
        have k6 : Sl .u8 v3 (vs 6) [rf + 128, 49] := k60
        refine any_step rfl (by kernel_rfl) ?_
        have hs3 : v15.heap.size ≤ v3.heap.size := hb3.size
        generalize hA : upTo _ 0 _ vs _ = A
        have hsz : A.tmps.size = 191 := size_upTo (by kernel_rfl) hA.symm
        refine wpList_app v3 rfl (.tmp 148) (.tmp 153) 23 rfl .u8 v15.heap.size 5 1 Try.underlying23 Try.infoU8 (vs 1) X [rf + 128, 49] (evA (j := 1) hA.symm (by kernel_rfl) (by kernel_rfl)) k1 (vs 6) (evA (j := 6) hA.symm (by kernel_rfl) (by kernel_rfl)) k6 (by have := HLR.out; unfold maxLen; simp; omega) (by have := HLR.out; simp; omega) hs3 ?_
        intro v7 v4 ho7 hg7 hb7 hn7
        refine goesOn_normal (any_facts (m0 := 8) (fuel := 0) [readO v15.heap.size [] (k : Int) 13, readO v15.heap.size [] (k : Int) 13, ownV .i64 3 v15.heap.size [], isV (.int .i64 (k : Int)), isV (.int .i64 13), ownV .i64 3 v15.heap.size [], isV (.int .i64 (k : Int)), isV (.int .i64 13)] (by kernel_rfl) (obls_cons ?_ (obls_cons ?_ (obls_cons ?_ (obls_cons ?_ (obls_cons ?_ (obls_cons ?_ (obls_cons ?_ (obls_cons ?_ obls_nil)))))))) ?_)
        · intro vs2 A2 w' hA2 hb hd
          have e0 : A2.eval (.tmp 154) = v7 := (ev0A hA2 (by kernel_rfl)).trans (put_at hsz (by kernel_rfl))
          refine fact_call rfl (exec_callF (args := [v7]) rfl (by simp only [List.map_cons, List.map_nil]; rw [e0]) Try.func13 (by kernel_rfl) rfl) ((G4.out v7 w' (ho7.sl.below hb)).mono ?_)
          rintro e w'' ⟨x, rfl, h1, h2⟩
          exact ⟨_, rfl, ⟨x, rfl, h1.mono (Nat.le_trans hs3 (Nat.le_trans hg7.size hb.size))⟩, h2⟩
        · intro vs2 A2 w' hA2 hb hd
          have h0 := hd 8 (by omega) (by kernel_rfl)
          exact fact_val rfl (exec_moveF rfl (evS (j := 8) (size_put hsz) hA2 (by kernel_rfl) (by kernel_rfl))) h0
        · intro vs2 A2 w' hA2 hb hd
          obtain ⟨x, h0, h1⟩ := hd 9 (by omega) (by kernel_rfl)
          exact fact_val rfl (exec_extract rfl ((evS (j := 9) (size_put hsz) hA2 (by kernel_rfl) (by kernel_rfl)).trans h0) rfl) h1
        · intro vs2 A2 w' hA2 hb hd
          obtain ⟨x, h0, h1⟩ := hd 9 (by omega) (by kernel_rfl)
          exact fact_val rfl (exec_extract rfl ((evS (j := 9) (size_put hsz) hA2 (by kernel_rfl) (by kernel_rfl)).trans h0) rfl) rfl
        · intro vs2 A2 w' hA2 hb hd
          obtain ⟨x, h0, h1⟩ := hd 9 (by omega) (by kernel_rfl)
          exact fact_val rfl (exec_extract rfl ((evS (j := 9) (size_put hsz) hA2 (by kernel_rfl) (by kernel_rfl)).trans h0) rfl) rfl
        · intro vs2 A2 w' hA2 hb hd
          have h0 := hd 10 (by omega) (by kernel_rfl)
          exact fact_val rfl (exec_assign rfl (evS (j := 10) (size_put hsz) hA2 (by kernel_rfl) (by kernel_rfl))) h0
        · intro vs2 A2 w' hA2 hb hd
          have e0v : vs2 11 = .int .i64 (k : Int) := hd 11 (by omega) (by kernel_rfl)
          have e0 : A2.eval (.tmp 157) = .int .i64 (k : Int) := (evS (j := 11) (size_put hsz) hA2 (by kernel_rfl) (by kernel_rfl)).trans e0v
          exact fact_val rfl (exec_assign rfl e0) rfl
        · intro vs2 A2 w' hA2 hb hd
          have e0v : vs2 12 = .int .i64 13 := hd 12 (by omega) (by kernel_rfl)
          have e0 : A2.eval (.tmp 158) = .int .i64 13 := (evS (j := 12) (size_put hsz) hA2 (by kernel_rfl) (by kernel_rfl)).trans e0v
          exact fact_val rfl (exec_assign rfl e0) rfl
        intro vs2 v16 hb5 hk
        obtain ⟨-, -, -, -, -, ka0, kb0, kc0, -⟩ := hk
        refine any_over rfl ?_
        have hs4 : v15.heap.size ≤ v4.heap.size := Nat.le_trans hs3 hg7.size
        have hV5 : Below v15.heap.size v15 v16 := ((((Below.refl v15.heap.size v15).drew).trans hb3).trans hb7).trans (hb5.mono hs4)
        have HB_v16 := hid (HB_v15.out.trans (hV5.mono HB_v15.out.size))
        have OB_v16 := hid (OB_v15.out.below hV5)
        have OT_v16 := hid (OT_v15.out.below hV5)
        have HX_v16 := hid (HX_v15.out.below hV5 HX_v15.out.lt)
        have TT_v16 := hid (TT_v15.out.below hV5)
        have ka : Own .i64 3 v15.heap.size v16 (vs2 13) [] := ka0
        have kb : vs2 14 = .int .i64 (k : Int) := kb0
        have kc : vs2 15 = .int .i64 13 := kc0
        subst hA
        simp only [upTo, dstOf, Act.put, List.getElem?_toArray, List.getElem?_cons_zero, List.getElem?_cons_succ, Option.bind_some, List.setIfInBounds_toArray, List.set_cons_zero, List.set_cons_succ, Nat.reduceLeDiff, Nat.reduceAdd, Nat.le_refl, Nat.zero_le, if_true, if_false, List.length_cons, List.length_nil]
        rw [kb, kc]
        obtain ⟨sa4, sc4, hv8⟩ := ka.sl.form
        have SS4 := hid ka
        obtain ⟨sn4, hsn⟩ : ∃ q, q = ([] : List Int).length := ⟨_, rfl⟩
        rw [← hsn] at hv8
        rw [hv8] at SS4 ⊢
        have HSN4 := hid hsn
        clear hsn hv8
        generalize vs 0 = p4_0
        generalize vs 1 = p4_1
        generalize vs 2 = p4_2
        generalize vs 3 = p4_3
        generalize vs 4 = p4_4
        generalize vs 5 = p4_5
        generalize vs 6 = p4_6
        generalize vs2 8 = q4_8
        generalize vs2 9 = q4_9
        generalize vs2 10 = q4_10
        generalize vs2 11 = q4_11
        generalize vs2 12 = q4_12
        clear ka kb kc ka0 kb0 kc0 hb5 hb7 hg7 hn7 ho7 k1 k10 k6 k60 hb3 HY y0 hs4 hs3 hV5 hsz
        clear OB_v15 OT_v15 HX_v15 HB_v15 vs vs2
        clear TT_v15 SS4
        have HWV := hid HB_v16.out.size
        have hkk2 : ((k : Int) == (k : Int)) = true := by simp
        have x2 := HX_v16.out.cell 2
        simp only [List.getElem?_cons_zero, List.getElem?_cons_succ] at x2
        go_wp2_with (first
          | (have _u := HB_t4; clear _u; go_at_call 12; refine (HW.out _).mono ?_; rintro e t5 ⟨rfl, hb5⟩; have HB_t5 := hid (HB_t4.out.trans (hb5.mono HB_t4.out.size)); clear hb5)
          | (have _u := HB_t3; clear _u; go_at_call 14; refine (keepInts _ _ (X ++ [rv]) (X ++ [rv]) _ TT_t3.out.sl HO_t3.out.sl).mono ?_; rw [eqL_self]; rintro e t4 ⟨rfl, n4, hw4⟩; have HB_t4 := hid (show Below W.heap.size W t4 from by rw [hw4]; exact below_drewN' HB_t3.out n4); clear hw4)
          | (at_builtin; go_loud (refine wpList_guarded (by rfl) ?_; refine wpList_app _ rfl _ _ 22 rfl .i64 W.heap.size 3 8 Try.underlying22 Try.infoI64 _ X [rv] rfl (OT_v16.out.alloc _) _ rfl (lit_sl (by first | simp | rfl) rfl rfl (by simp)) (by have := HLR.out; unfold maxLen; simp only [List.length_cons, List.length_nil]; omega) (by have := HLR.out; simp only [List.length_cons, List.length_nil]; omega) (by have := HWV.out; simp; omega) ?_); intro v6 t3 ho6 hg6 hb6 hn6; have HO_t3 := hid ho6; have TT_t3 := hid ((TT_v16.out.alloc _).apart (fun r hr => Nat.lt_of_lt_of_le (HLT.out r hr) (Nat.le_refl _)) hg6); have HB_t3 := hid ((HB_v16.out.alloc HB_v16.out.size _).trans hb6); clear ho6 hb6 hg6 hn6))
        go_ret
        exact ⟨rfl, HB0.out.trans (HB_t5.out.mono HB0.out.size)⟩
end Go.Proofs.Ytobicndpkojgiaa
