/- Several texts in one: LawHangul11, Walks11, OpenB, OpenL, Open2. -/
import Derived.Test.YtimbchkoomjhkaaPk18
import Derived.Test.YtimbchkoomjhkaaPk3
import Derived.Test.YtimbchkoomjhkaaPk36
import Derived.Test.YtimbchkoomjhkaaPk40
import Derived.Test.YtimbchkoomjhkaaPk41
import Derived.Test.YtimbchkoomjhkaaPk42
import Derived.Test.YtimbchkoomjhkaaPk43
import Derived.Test.YtimbchkoomjhkaaPk44
import Derived.Test.YtimbchkoomjhkaaPk1
import Derived.ProofKit
import Derived.OpenShut
import Derived.ShutString
import Derived.ChangeOld
import Derived.Deep.Fields
import Derived.Test.YtimbchkoomjhkaaPk26
import Derived.Deep.Matrix
/-! LawHangul11 -/
namespace Go.Proofs.Ytimbchkoomjhkaa
open Go.RowKit

/-- what is asked of package hangul's Split: new memory -/
def SplitOwn : Prop := ∀ (c : Int) (w : World), I64n c → Calls Try.prog 24 #[.int .i64 c] w fun e w' => ∃ x, e = .returned x ∧ Own .i64 3 w.heap.size w' x (splitS c) ∧ Below w.heap.size w w'
theorem ix_rem11 (x m : Int) (h0 : 0 < m) (h1 : m ≤ 1000000) : ∃ K : Nat, wrap64 ((IntKind.u64.wrap x).tmod m) = (K : Int) ∧ (K : Int) < m := by
  obtain ⟨a, b⟩ := ixr x m h0 h1
  exact ⟨(wrap64 ((IntKind.u64.wrap x).tmod m)).toNat, by omega, by omega⟩
theorem parts_in {n : Nat} (h : n ≤ 11171) : (partsN n).all inI = true := by
  rw [List.all_eq_true]
  intro x hx
  obtain ⟨h0, h1⟩ := letters_zero h x hx
  exact decide_eq_true ⟨by omega, by omega⟩
theorem parts_len (n : Nat) : (partsN n).length ≤ 3 := by
  unfold partsN
  split <;> simp
theorem syll_inI {n : Nat} (h : n ≤ 11171) : inI (44032 + (n : Int)) = true := decide_eq_true ⟨by omega, by omega⟩
set_option maxHeartbeats 4000000 in
theorem walkHangul11 (HA : NApartOk) (HF : NFormOk) (HQ : NQuickOk) (HSM : NSameOk) (HP : SplitOwn) (i j : Int) (w : World) :
    Calls Try.prog 9 #[.int .i64 i, .int .i64 j] w fun e w' => e = .returned (.bool true) ∧ Below w.heap.size w w' := by
  have HW := hid (fun w => lawWakes11 HF HQ HSM w)
  have HB0 := hid (Below.refl w.heap.size w)
  obtain ⟨a, hA, a0⟩ := ix_rem11 i 11172 (by decide) (by decide)
  obtain ⟨b, hB, b0⟩ := ix_rem11 j 11172 (by decide) (by decide)
  have ha : a ≤ 11171 := by omega
  have hb : b ≤ 11171 := by omega
  have hi : (partsN a ++ partsN b).all inI = true := by rw [List.all_append, parts_in ha, parts_in hb]; rfl
  have hl : (partsN a ++ partsN b).length ≤ 400 := by rw [List.length_append]; have := parts_len a; have := parts_len b; omega
  have G1 := hid (fun w => HP (44032 + (a : Int)) w (i64n (by omega) (by omega)))
  rw [splitS_in ha] at G1
  have G2 := hid (fun w => HP (44032 + (b : Int)) w (i64n (by omega) (by omega)))
  rw [splitS_in hb] at G2
  have G4 := hid (fun v w h => HF false v (partsN a ++ partsN b) w h (fits_small hi hl))
  rw [form_two ha hb] at G4
  have G6 := hid (fun v w h => HF true v (partsN a ++ partsN b) w h (fits_small hi hl))
  rw [form_two ha hb] at G6
  have G8 := hid (fun v w h => HA false v [44032 + (a : Int), 44032 + (b : Int)] w h (fits_small (by rw [List.all_cons, List.all_cons, syll_inI ha, syll_inI hb]; rfl) (by simp)))
  rw [apart_two ha hb] at G8
  have L1 := hid (parts_len a)
  have L2 := hid (parts_len b)
  generalize partsN a = PA at G1 G4 G6 G8 L1
  generalize partsN b = PB at G2 G4 G6 G8 L2
  clear HA HF HQ HSM HP hi hl a0 b0
  go_enter Try.func9, Try.ntmps9
  go_wp2_with (first
    | (have _u := HB9; clear _u; go_at_call 20; refine (HW.out _).mono ?_; rintro e w10 ⟨rfl, hb10⟩; have HB10 := hid (HB9.out.trans (hb10.mono HB9.out.size)); clear hb10)
    | (have _u := HB8; clear _u; go_at_call 13; refine (keepInts _ _ (PA ++ PB) (PA ++ PB) _ S_t_8.out S_s_8.out).mono ?_; rw [eqL_self]; rintro e w9 ⟨rfl, n9, hw9⟩; have hb9 : Below w8.heap.size w8 w9 := (by rw [hw9]; exact below_drewN n9); clear hw9; have HB9 := hid (HB8.out.trans (hb9.mono HB8.out.size)); clear hb9)
    | (have _u := HB7; clear _u; go_at_call 14; refine (G8.out _ _ (lit_sl (by first | simp | rfl) rfl rfl (by simp))).mono ?_; rintro e w8 ⟨v8, rfl, ho8, hb8⟩; replace hb8 := ((Below.refl w7.heap.size w7).alloc (Nat.le_refl _) _).trans (hb8.mono (by first | (simp; done) | (simp; omega))); have S_s_8 := hid (S_s_7.out.below hb8); have S_t_8 := hid ho8.sl; clear ho8; have HB8 := hid (HB7.out.trans (hb8.mono HB7.out.size)); clear hb8)
    | (have _u := HB6; clear _u; go_at_call 13; refine (keepInts _ _ [44032 + (a : Int), 44032 + (b : Int)] [44032 + (a : Int), 44032 + (b : Int)] _ (S_g_6.out.below (by (repeat (first | exact Below.refl _ _ | exact below_drewN _ | refine Below.drew ?_ | refine Below.alloc ?_ (by simp) _ | refine Below.setCell ?_ (by simp) _ | refine below_drewN' ?_ _)))) (lit_sl (by first | simp | rfl) rfl rfl (by simp))).mono ?_; rw [eqL_self]; rintro e w7 ⟨rfl, n7, hw7⟩; have hb7 : Below w6.heap.size w6 w7 := (by rw [hw7]; exact below_drewN' ((Below.refl _ _).alloc (Nat.le_refl _) _) n7); clear hw7; have S_s_7 := hid (S_s_6.out.below hb7); have HB7 := hid (HB6.out.trans (hb7.mono HB6.out.size)); clear hb7)
    | (have _u := HB5; clear _u; go_at_call 16; with_reducible refine (G6.out _ _ S_s_5.out).mono ?_; rintro e w6 ⟨v6, rfl, ho6, hb6⟩; have S_s_6 := hid (S_s_5.out.below hb6); have S_g_6 := hid ho6.sl; clear ho6; have HB6 := hid (HB5.out.trans (hb6.mono HB5.out.size)); clear hb6)
    | (have _u := HB4; clear _u; go_at_call 13; refine (keepInts _ _ [44032 + (a : Int), 44032 + (b : Int)] [44032 + (a : Int), 44032 + (b : Int)] _ (S_f_4.out.below (by (repeat (first | exact Below.refl _ _ | exact below_drewN _ | refine Below.drew ?_ | refine Below.alloc ?_ (by simp) _ | refine Below.setCell ?_ (by simp) _ | refine below_drewN' ?_ _)))) (lit_sl (by first | simp | rfl) rfl rfl (by simp))).mono ?_; rw [eqL_self]; rintro e w5 ⟨rfl, n5, hw5⟩; have hb5 : Below w4.heap.size w4 w5 := (by rw [hw5]; exact below_drewN' ((Below.refl _ _).alloc (Nat.le_refl _) _) n5); clear hw5; have S_s_5 := hid (S_s_4.out.below hb5); have HB5 := hid (HB4.out.trans (hb5.mono HB4.out.size)); clear hb5)
    | (have _u := HB3; clear _u; go_at_call 16; with_reducible refine (G4.out _ _ S_s_3.out).mono ?_; rintro e w4 ⟨v4, rfl, ho4, hb4⟩; have S_s_4 := hid (S_s_3.out.below hb4); have S_f_4 := hid ho4.sl; clear ho4; have HB4 := hid (HB3.out.trans (hb4.mono HB3.out.size)); clear hb4)
    | (have _u := HB2; clear _u; at_builtin; go_loud (refine wpList_app _ rfl _ _ 22 rfl .i64 w.heap.size 3 8 Try.underlying22 Try.infoI64 _ PA PB rfl (O_p.out.below HQ2.out) _ rfl S_q_2.out (by have := L1.out; have := L2.out; unfold maxLen; omega) (by have := L1.out; have := L2.out; omega) (HQ1.out.trans (HQ2.out.mono HQ1.out.size)).size ?_); intro v3 w3 ho3 hg3 hb3 hn3; clear hg3 hn3; have S_s_3 := hid ho3.sl; have HB3 := hid (HB0.out.trans (((HQ1.out.trans (HQ2.out.mono HQ1.out.size)).trans hb3).mono HB0.out.size)); clear hb3 ho3)
    | (have _u := HB1; clear _u; go_at_call 24; with_reducible refine (G2.out _).mono ?_; rintro e w2 ⟨v2, rfl, ho2, hb2⟩; have S_q_2 := hid ho2.sl; clear ho2; have HQ2 := hid hb2; have HB2 := hid (HB1.out.trans (hb2.mono HB1.out.size)); clear hb2)
    | (have _u := HB0; clear _u; go_at_call 24; with_reducible refine (G1.out _).mono ?_; rintro e w1 ⟨v1, rfl, ho1, hb1⟩; have O_p := hid ho1; have HQ1 := hid hb1; clear ho1; have HB1 := hid (HB0.out.trans (hb1.mono HB0.out.size)); clear hb1))
  go_ret
  exact ⟨rfl, HB10.out⟩
end Go.Proofs.Ytimbchkoomjhkaa

/-! Walks11 -/
namespace Go.Proofs.Ytimbchkoomjhkaa

theorem lawExact11 (va vb : Value) (a b : List Int) (k : Bool) (w : World) (h1 : Sl .i64 w va a) (h2 : Sl .i64 w vb b) (ha : a.all inI = true) (hb : b.all inI = true) :
    Calls Try.prog 3 #[va, vb, .bool k] w fun e w' => e = .returned (.bool true) ∧ Go.RowKit.Below w.heap.size w w' := walkExact11 normApart normForm normQuick normSame va vb a b k w h1 h2 ha hb
theorem lawTwice11 (v : Value) (s : List Int) (k : Bool) (w : World) (h : Sl .i64 w v s) (hi : s.all inI = true) :
    Calls Try.prog 4 #[v, .bool k] w fun e w' => e = .returned (.bool true) ∧ Go.RowKit.Below w.heap.size w w' := walkTwice11 normApart normForm normQuick normSame v s k w h hi
theorem lawQuick11 (va vb : Value) (a b : List Int) (k : Bool) (w : World) (h1 : Sl .i64 w va a) (h2 : Sl .i64 w vb b) (ha : a.all inI = true) (hb : b.all inI = true) :
    Calls Try.prog 5 #[va, vb, .bool k] w fun e w' => e = .returned (.bool true) ∧ Go.RowKit.Below w.heap.size w w' := walkQuick11 normForm normQuick normSame va vb a b k w h1 h2 ha hb
theorem lawSame11 (va vb vc : Value) (a b c : List Int) (i : Int) (w : World) (h1 : Sl .i64 w va a) (h2 : Sl .i64 w vb b) (h3 : Sl .i64 w vc c) (ha : a.all inI = true) (hb : b.all inI = true) (hc : c.all inI = true) :
    Calls Try.prog 6 #[va, vb, vc, .int .i64 i] w fun e w' => e = .returned (.bool true) ∧ Go.RowKit.Below w.heap.size w w' := walkSame11 normForm normQuick normSame va vb vc a b c i w h1 h2 h3 ha hb hc
theorem lawChain11 (v : Value) (s : List Int) (w : World) (h : Sl .i64 w v s) (hi : s.all inI = true) :
    Calls Try.prog 7 #[v] w fun e w' => e = .returned (.bool true) ∧ Go.RowKit.Below w.heap.size w w' := walkChain11 normApart normForm normQuick normSame v s w h hi
theorem lawScalars11 (c : Int) (w : World) (hc : inI c = true) :
    Calls Try.prog 8 #[.int .i64 c] w fun e w' => e = .returned (.bool true) ∧ Go.RowKit.Below w.heap.size w w' := walkScalars11 normApart normForm normQuick normSame c w hc
theorem lawHangul11 (i j : Int) (w : World) :
    Calls Try.prog 9 #[.int .i64 i, .int .i64 j] w fun e w' => e = .returned (.bool true) ∧ Go.RowKit.Below w.heap.size w w' := walkHangul11 normApart normForm normQuick normSame splitO i j w
end Go.Proofs.Ytimbchkoomjhkaa

/-! OpenB -/
namespace Go.Proofs.Ytimbchkoomjhkaa
open Go.ChangeShapes Go.WideShapes Go.ChangeAt Go.RowKit Go.Deep
set_option linter.unusedVariables false
section
variable {H : Type} {enc : TypeId × Value → H} {P : Program} {w : World} {base : Nat} {spare : Nat → Bool} {held : Bool} {r : Reach} {b0 : Nat} {v : Value} {d : DataW H} {p : List MemPlace}

theorem wf_u8 {x : Int} (h : (Lit.int .u8 x).wf = true) : 0 ≤ x ∧ x ≤ 255 := by
  simpa [Lit.wf, IntKind.min, IntKind.max, IntKind.signed, IntKind.bits] using h
theorem wf_i64 {x : Int} (h : (Lit.int .i64 x).wf = true) : -9223372036854775808 ≤ x ∧ x ≤ 9223372036854775807 := by
  simpa [Lit.wf, IntKind.min, IntKind.max, IntKind.signed, IntKind.bits] using h

theorem open_bytes {t e : TypeId} (ht : P.underlying t = some (.slice e)) (he : P.underlying e = some (.int .u8)) (hc : P.cellsOf e = 1) (hv : Value.okWide P w r b0 t v) (h : DataW.Trod enc P w base (fun _ => true) held t v d p) :
    ∃ xs, Sl .u8 w v xs ∧ U8 xs := by
  obtain ⟨a0, len0, cap0, rfl⟩ := okWide_slice ht hv
  obtain ⟨fuel, hf⟩ := h
  rcases open_ints ht he hc hf with ⟨hcs, _⟩ | ⟨x, l, c, zs, hcs, _, hl, hm, hz, _, hcell, hwz⟩
  · simp [Value.cells] at hcs
    obtain ⟨rfl, rfl, rfl⟩ := hcs
    exact ⟨[], ⟨none, 0, rfl, Nat.le_refl _, by unfold maxLen; omega, .inl rfl⟩, U8.nil⟩
  · simp [Value.cells] at hcs
    obtain ⟨rfl, rfl, rfl⟩ := hcs
    have hzl : zs.length = cap0 := by rw [hz]; simp
    have hlen : (zs.take len0).length = len0 := by simp; omega
    refine ⟨zs.take len0, ⟨some x, cap0, by rw [hlen], by rw [hlen]; exact hl, hm, ?_⟩, fun n hn => wf_u8 (hwz n (List.mem_of_mem_take hn))⟩
    rcases Nat.eq_zero_or_pos zs.length with h0 | h0
    · exact .inl (by omega)
    · obtain ⟨b, off, spot⟩ := x
      have hc0 := hcell 0 h0
      have hspot : spot = none := by simpa [Addr.add] using World.cell?_spot hc0
      subst hspot
      refine .inr ⟨b, off, rfl, fun _ => World.block_lt_of_cell? w _ hc0, fun i hi => ?_⟩
      rw [hlen] at hi
      have := hcell i (by omega)
      rw [show (⟨b, off, none⟩ : Addr).add i = ⟨b, off + i, none⟩ by unfold Addr.add; split <;> simp_all] at this
      rw [this]
      simp [List.getD_eq_getElem?_getD, hi]

end
end Go.Proofs.Ytimbchkoomjhkaa

/-! OpenL -/
namespace Go.Proofs.Ytimbchkoomjhkaa
open Go.ChangeShapes Go.WideShapes Go.ChangeAt Go.RowKit Go.Deep
set_option linter.unusedVariables false
section
variable {H : Type} {enc : TypeId × Value → H} {P : Program} {w : World} {base : Nat} {spare : Nat → Bool} {held : Bool} {r : Reach} {b0 : Nat} {v : Value} {d : DataW H} {p : List MemPlace}

theorem open_intl {t e : TypeId} (ht : P.underlying t = some (.slice e)) (he : P.underlying e = some (.int .i64)) (hc : P.cellsOf e = 1) (hv : Value.okWide P w r b0 t v) (h : DataW.Trod enc P w base (fun _ => true) held t v d p) :
    ∃ xs, Sl .i64 w v xs ∧ ∀ x ∈ xs, -9223372036854775808 ≤ x ∧ x ≤ 9223372036854775807 := by
  obtain ⟨a0, len0, cap0, rfl⟩ := okWide_slice ht hv
  obtain ⟨fuel, hf⟩ := h
  rcases open_ints ht he hc hf with ⟨hcs, _⟩ | ⟨x, l, c, zs, hcs, _, hl, hm, hz, _, hcell, hwz⟩
  · simp [Value.cells] at hcs
    obtain ⟨rfl, rfl, rfl⟩ := hcs
    exact ⟨[], ⟨none, 0, rfl, Nat.le_refl _, by unfold maxLen; omega, .inl rfl⟩, (fun _ h => by cases h)⟩
  · simp [Value.cells] at hcs
    obtain ⟨rfl, rfl, rfl⟩ := hcs
    have hzl : zs.length = cap0 := by rw [hz]; simp
    have hlen : (zs.take len0).length = len0 := by simp; omega
    refine ⟨zs.take len0, ⟨some x, cap0, by rw [hlen], by rw [hlen]; exact hl, hm, ?_⟩, fun n hn => wf_i64 (hwz n (List.mem_of_mem_take hn))⟩
    rcases Nat.eq_zero_or_pos zs.length with h0 | h0
    · exact .inl (by omega)
    · obtain ⟨b, off, spot⟩ := x
      have hc0 := hcell 0 h0
      have hspot : spot = none := by simpa [Addr.add] using World.cell?_spot hc0
      subst hspot
      refine .inr ⟨b, off, rfl, fun _ => World.block_lt_of_cell? w _ hc0, fun i hi => ?_⟩
      rw [hlen] at hi
      have := hcell i (by omega)
      rw [show (⟨b, off, none⟩ : Addr).add i = ⟨b, off + i, none⟩ by unfold Addr.add; split <;> simp_all] at this
      rw [this]
      simp [List.getD_eq_getElem?_getD, hi]

theorem open_inl {t e : TypeId} (ht : P.underlying t = some (.slice e)) (he : P.underlying e = some (.int .i64)) (hc : P.cellsOf e = 1) (hv : Value.okWide P w r b0 t v) (h : DataW.Trod enc P w base (fun _ => true) held t v d p) :
    ∃ xs : List Int, Sl .i64 w v xs ∧ xs.all inI = true := by
  obtain ⟨xs, h1, h2⟩ := open_intl ht he hc hv h
  exact ⟨xs, h1, List.all_eq_true.2 fun x hx => inI_of (h2 x hx)⟩
end
end Go.Proofs.Ytimbchkoomjhkaa

/-! Open2 -/
namespace Go.Proofs.Ytimbchkoomjhkaa
open Go.ChangeShapes Go.WideShapes Go.ChangeAt Go.RowKit Go.Deep
set_option linter.unusedVariables false
section
variable {H : Type} {enc : TypeId × Value → H} {P : Program} {w : World} {base : Nat} {spare : Nat → Bool} {held : Bool} {r : Reach} {b0 : Nat} {v : Value} {d : DataW H} {p : List MemPlace}

theorem open_bool1 {t : TypeId} (ht : P.underlying t = some .bool) (hv : Value.okWide P w r b0 t v) (h : DataW.Trod enc P w base spare held t v d p) : ∃ b, v = .bool b := by
  exact okWide_bool ht hv

theorem add_plain {b off i : Nat} : (⟨b, off, none⟩ : Addr).add i = ⟨b, off + i, none⟩ := by unfold Addr.add; split <;> simp_all

theorem open_rows {t e q : TypeId} (ht : P.underlying t = some (.slice e)) (he : P.underlying e = some (.slice q)) (hq : P.underlying q = some (.int .u8)) (ce : P.cellsOf e = 1) (cq : P.cellsOf q = 1)
    (hv : Value.okWide P w r b0 t v) (h : DataW.Trod enc P w base (fun _ => true) held t v d p) : ∃ xss, Rws w v xss ∧ ∀ xs ∈ xss, U8 xs := by
  obtain ⟨a0, len0, cap0, rfl⟩ := okWide_slice ht hv
  obtain ⟨fuel, hf⟩ := h
  rcases open_int_rows ht he hq ce cq hf with ⟨hcs, _⟩ | ⟨a, len, cap, A, L, C, Z, hcs, _, hl, hm, _, hx⟩
  · simp [Value.cells] at hcs
    obtain ⟨rfl, rfl, rfl⟩ := hcs
    exact ⟨[], ⟨[], rfl, ⟨none, 0, rfl, Nat.le_refl _, by unfold maxLen; omega, .inl rfl⟩, fun i hi => by simp at hi⟩, fun _ hx => by cases hx⟩
  · simp [Value.cells] at hcs
    obtain ⟨rfl, rfl, rfl⟩ := hcs
    refine ⟨(List.range len0).map fun i => (Z i).take (L i), ⟨(List.range len0).map fun i => .slice (A i) (L i) (C i), by simp, ⟨some a, cap0, by simp, by simpa using hl, hm, ?_⟩, fun i hi => ?_⟩, fun xs hxs => ?_⟩
    · rcases Nat.eq_zero_or_pos cap0 with h0 | h0
      · exact .inl h0
      · obtain ⟨b, off, spot⟩ := a
        have hc0 := (hx 0 h0).1
        have hspot : spot = none := by simpa [Addr.add] using World.cell?_spot hc0
        subst hspot
        refine .inr ⟨b, off, rfl, fun _ => World.block_lt_of_cell? w _ hc0, fun i hi => ?_⟩
        simp at hi
        have := (hx i (by omega)).1
        rw [add_plain] at this
        rw [this]
        simp [List.getD_eq_getElem?_getD, hi]
    · simp at hi
      obtain ⟨_, h2, h3, h4, h5, h6, h7⟩ := hx i (by omega)
      have hlen : ((Z i).take (L i)).length = L i := by simp; omega
      have e1 : ((List.range len0).map fun i => Value.slice (A i) (L i) (C i)).getD i undef = .slice (A i) (L i) (C i) := by simp [List.getD_eq_getElem?_getD, hi]
      have e2 : ((List.range len0).map fun i => (Z i).take (L i)).getD i [] = (Z i).take (L i) := by simp [List.getD_eq_getElem?_getD, hi]
      rw [e1, e2]
      refine ⟨A i, C i, by rw [hlen], by rw [hlen]; exact h2, h3, ?_⟩
      rcases Nat.eq_zero_or_pos (C i) with h0 | h0
      · exact .inl h0
      · match hA : A i with
        | none => exact .inl (h6 hA)
        | some ⟨b, off, spot⟩ =>
          have hc := (h7 _ hA).2
          have hc0 := hc 0 h0
          have hspot : spot = none := by simpa [Addr.add] using World.cell?_spot hc0
          subst hspot
          refine .inr ⟨b, off, rfl, fun _ => World.block_lt_of_cell? w _ hc0, fun j hj => ?_⟩
          rw [hlen] at hj
          have := hc j (by omega)
          rw [add_plain] at this
          rw [this]
          simp [List.getD_eq_getElem?_getD, hj]
    · obtain ⟨i, hi, rfl⟩ := List.mem_map.1 hxs
      have hi := List.mem_range.1 hi
      obtain ⟨_, h2, h3, h4, h5, h6, h7⟩ := hx i (by omega)
      exact fun n hn => wf_u8 (h5 n (List.mem_of_mem_take hn))

end
end Go.Proofs.Ytimbchkoomjhkaa
