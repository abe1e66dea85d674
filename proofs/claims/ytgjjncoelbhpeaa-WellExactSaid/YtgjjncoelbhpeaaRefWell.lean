/- Contract of the document's own answer for nested values: it tells the stack form's answer, which is the recursion's. -/
import Derived.Test.YtgjjncoelbhpeaaRef4
import Derived.Test.YtgjjncoelbhpeaaWellFin
namespace Go.Proofs.Ytgjjncoelbhpeaa
open Go.RowKit

theorem Try.infoInt : (Try.prog.info? 3).map (fun i => (i.zero, i.size, i.bytes)) = some (some (.int .i64 0), 1, 8) := by kernel_rfl

/-- the stack as the slice holds it: the outermost first -/
def stk (st : List Nat) : List Int := (st.map fun n : Nat => (n : Int)).reverse
theorem stk_len (st : List Nat) : (stk st).length = st.length := by simp [stk]
theorem stk_push (e : Nat) (st : List Nat) : stk (e :: st) = stk st ++ [(e : Int)] := by simp [stk]
theorem stk_pop (e : Nat) (st : List Nat) : (stk (e :: st)).take st.length = stk st := by
  rw [stk_push, List.take_append_of_le_length (by rw [stk_len]; exact Nat.le_refl _), List.take_of_length_le (by rw [stk_len]; exact Nat.le_refl _)]

/-- each ends where the one around it ends, or before -/
def Up (n : Nat) : Nat → List Nat → Prop
  | p, [] => p ≤ n
  | p, e :: st => p ≤ e ∧ Up n e st
theorem Up.le {n : Nat} : ∀ {st : List Nat} {p : Nat}, Up n p st → p ≤ n
  | [], _, h => h
  | _ :: _, _, h => Nat.le_trans h.1 (Up.le h.2)

/-- where the stack stands -/
def St (b : List Int) (st : List Nat) (p dp : Nat) : Prop := wellS b = finW b st p dp ∧ st.length ≤ dp ∧ st.length ≤ 32 ∧ dp ≤ 32 ∧ Up b.length p st

theorem own_form {e base : Nat} {w : World} {v : Value} {st : List Nat} (h : Own .i64 e base w v (stk st)) : ∃ a c, v = .slice a st.length c := by
  obtain ⟨a, c, hv, -⟩ := h.sl
  exact ⟨a, c, by rw [hv, stk_len]⟩
theorem own_top {e base x : Nat} {w : World} {v : Value} {st : List Nat} (h : Own .i64 e base w v (stk (x :: st))) :
    ∃ g cap, v = .slice (some ⟨g, 0, none⟩) (st.length + 1) cap ∧ w.cell? ⟨g, st.length, none⟩ = some (.int .i64 (x : Int)) ∧ g < w.heap.size := by
  have hl : (stk (x :: st)).length = st.length + 1 := by rw [stk_len]; rfl
  obtain ⟨h1, h2⟩ := h
  rcases h2 with ⟨rfl, hn⟩ | ⟨g, cap, cur, rfl, hb, hg, hnc, hcm, hcs, ht⟩
  · omega
  · refine ⟨g, cap, by rw [hl], ?_, (Array.getElem?_eq_some_iff.1 hg).1⟩
    rw [cell_of_row w g st.length cur e (0, 0) hg]
    have : (cur.toList.take ((stk (x :: st)).length * 1))[st.length]? = ((stk (x :: st)).map (Value.int .i64))[st.length]? := by rw [ht]
    rw [List.getElem?_take, if_pos (by omega)] at this
    rw [← Array.getElem?_toList, this, List.getElem?_map, stk_push, List.getElem?_append_right (by rw [stk_len]; exact Nat.le_refl _), stk_len]
    simp

/-- v[:j] of a slice that the call itself made stays its own -/
theorem wpList_toOwn {P : Program} (w : World) {ops : Array Oper} {rest : List Oper} {o : Oper} {a : Act} {Q : Exit → Act → World → Prop} (hgd : o.guard = none) (x hi : Operand) (t : TypeId)
    (ho : o.op = .slice t x none (some hi) none) (k : IntKind) (e base : Nat) (bytes : Nat) (ht : P.underlying t = some (.slice e)) (hinfo : (P.info? e).map (fun i => (i.zero, i.size, i.bytes)) = some (some (.int k 0), 1, bytes))
    (v : Value) (xs : List Int) (hx : a.eval x = v) (hs : Own k e base w v xs) (kj : IntKind) (j : Int) (hhi : a.eval hi = .int kj j) (h0 : 0 ≤ j) (h1 : j ≤ xs.length)
    (h : ∀ v', Own k e base w v' (xs.take j.toNat) → wpList P ops Q rest (a.put o.dst v') w) : wpList P ops Q (o :: rest) a w := by
  obtain ⟨m, rfl⟩ := Int.eq_ofNat_of_zero_le h0
  simp only [Int.toNat_natCast] at h
  obtain ⟨i, hi', hz0, hz1, hz2⟩ := info_parts hinfo
  have hm : m ≤ xs.length := by omega
  have hlen : (xs.take m).length = m := by rw [List.length_take]; omega
  rcases hs.2 with ⟨rfl, hn⟩ | ⟨g, cap, cur, rfl, hb, hg, hnc, hcm, hcs, hcur⟩
  · have hx0 : xs = [] := List.eq_nil_of_length_eq_zero hn
    subst hx0
    obtain rfl : m = 0 := by simpa using hm
    have hrun : (Instr.sliceAt t (.slice none 0 0) none (some (.int kj ((0 : Nat) : Int))) none).run P w = .ok (.slice none 0 0) w := by
      simp [Instr.sliceAt, Instr.slice, run_underlying ht, Instr.sliceBounds, Instr.sliceBound, asIntOf, sizeOf, typeInfo, hi', hz1]
    refine wpList_plain hgd fun K hK => ?_
    unfold Oper.wp
    simp [execOp, ho, hx, hhi] at hrun ⊢
    simp [hrun, Result.andThen]
    exact hK _ _ (h _ (by simpa using Own.nil _ _ _ _))
  · have hrun : (Instr.sliceAt t (.slice (some ⟨g, 0, none⟩) xs.length cap) none (some (.int kj (m : Int))) none).run P w = .ok (.slice (some ⟨g, 0, none⟩) m cap) w := by
      have e1 : (0 : Int) ≤ (m : Int) := by omega
      have e2 : (0 : Int) ≤ (m : Int) ∧ (m : Int) ≤ (cap : Int) := by omega
      simp [Instr.sliceAt, Instr.slice, run_underlying ht, Instr.sliceBounds, Instr.sliceBound, asIntOf, sizeOf, typeInfo, hi', hz1, e1, e2, Addr.add]
      intro hx; omega
    refine wpList_plain hgd fun K hK => ?_
    unfold Oper.wp
    simp [execOp, ho, hx, hhi, hrun, Result.andThen]
    refine hK _ _ (h _ ⟨by rw [hlen]; simpa using hlen, .inr ⟨g, cap, cur, by rw [hlen], hb, hg, by rw [hlen]; omega, hcm, hcs, ?_⟩⟩)
    rw [hlen, List.map_take, ← hcur, List.take_take]
    congr 1
    omega

theorem ret_three {k k' k'' : IntKind} {a b c d x y : Int} (h : a = c) (h' : b = d) (h'' : x = y) : Ending.returned (.tuple #[.int k a, .int k' b, .int k'' x]) = .returned (.tuple #[.int k c, .int k' d, .int k'' y]) := by rw [h, h', h'']

set_option maxRecDepth 20000 in
set_option maxHeartbeats 4000000 in
theorem refWell (v : Value) (xs : List Int) (w : World) (h : Sl .u8 w v xs) (hu : U8 xs) (hl : xs.length ≤ 1000000000000) :
    Calls Try.prog 14 #[v] w fun e w' => e = .returned (.tuple #[.int .i64 ((wellS xs).pos : Int), .int .i64 (wellS xs).e, .int .i64 ((wellS xs).deep : Int)]) ∧ Below w.heap.size w w' := by
  have HS := hid h
  have HU := hid hu
  obtain ⟨a, cap, rfl, -, -, -⟩ := h
  obtain ⟨len, hle⟩ : ∃ len, len = xs.length := ⟨_, rfl⟩
  rw [← hle] at hl HS ⊢
  have HLE := hid hle
  clear hle hu
  go_enter Try.func14, Try.ntmps14
  go_wp2
  go_loopw [5, 6, 7] (fun v q d wr => ∃ (st : List Nat) (p dp : Nat), q = .int .i64 p ∧ d = .int .i64 dp ∧ p ≤ len ∧ dp ≤ 32 ∧ Hid (Own .i64 3 w.heap.size wr v (stk st)) ∧ Hid (Below w.heap.size w wr) ∧ Hid ((st = [] ∧ p = 0 ∧ dp = 0) ∨ (st ≠ [] ∧ St xs st p dp))) (fun _ q _ _ => len + 1 - (intOf q).toNat)
  case atStart => exact ⟨[], 0, 0, rfl, rfl, by omega, by omega, Own.nil _ _ _ _, Below.refl _ _, .inl ⟨rfl, rfl, rfl⟩⟩
  case round =>
    obtain ⟨st, p, dp, rfl, rfl, hp, hdp, hown, hbl, hst⟩ := hrel
    rcases hst.out with ⟨rfl, rfl, rfl⟩ | ⟨hne, hSt⟩

    · obtain ⟨a5, c5, hv5⟩ := own_form hown.out
      subst hv5
      simp only [List.length_nil] at hown ⊢
      clear hst
      go_wp2
      go_loopw [5] (fun v wr2 => wr2 = wr ∧ v = .slice a5 0 c5) (fun _ _ => 0)
      case atStart => exact ⟨rfl, rfl⟩
      case round =>
        obtain ⟨rfl, rfl⟩ := hrel
        obtain ⟨ys, hys⟩ : ∃ ys, ys = (xs.drop 0).take (len - 0) := ⟨_, rfl⟩
        have hyl : ys.length = len - 0 := by rw [hys, List.length_take, List.length_drop]; have := HLE.out; omega
        have hyu : U8 ys := by rw [hys]; exact (HU.out.drop _).take _
        have hys2 : ys = xs := by rw [hys, List.drop_zero, Nat.sub_zero, HLE.out, List.take_length]
        have hRB : headE ys ≠ 0 → wellS xs = ⟨headE ys, 0, 0⟩ := fun h => by rw [hys2] at h ⊢; exact well0_bad h
        have hRL : headE ys = 0 → ¬ (rd ys).1.cons = true → wellS xs = finW xs [] (0 + endS ys) (max 0 1) := fun h h' => by rw [hys2] at h h' ⊢; rw [Nat.zero_add]; exact well0_leaf h h'
        have hRI : headE ys = 0 → (rd ys).1.cons = true → wellS xs = finW xs [0 + endS ys] (0 + szS ys) (max 0 1) := fun h h' => by rw [hys2] at h h' ⊢; rw [Nat.zero_add, Nat.zero_add]; exact well0_in HU.out h h'
        clear hys2
        have HY := hid hys
        clear hys
        have hbd := rd_bd ys hyu
        have hend := fun h => ends_of hyu h
        have hoo : headE ys = headE ys := rfl
        conv at hoo => rhs; unfold headE
        obtain ⟨⟨cls, tag, cons, ln, size⟩, E, hrd⟩ : ∃ h E, rd ys = (h, E) := ⟨_, _, rfl⟩
        have HR := hid hrd
        rw [hrd] at hbd hoo hRL hRI
        dsimp only at hbd hoo hRL hRI
        clear hrd
        by_cases hE : E = 0
        · subst hE
          obtain ⟨hok, s0, s1⟩ := hbd rfl
          rw [if_neg (by simp)] at hoo
          obtain ⟨l0, l1⟩ : 0 ≤ ln ∧ ln ≤ 2147483647 := hok.2.2
          clear hbd hok
          obtain ⟨sz, rfl⟩ := Int.eq_ofNat_of_zero_le (show 0 ≤ size by omega)
          obtain ⟨l, rfl⟩ := Int.eq_ofNat_of_zero_le l0
          have hpl : (0 : Nat) + sz ≤ 1000000000000 := by omega
          by_cases hct : cls = 0 ∧ tag = 0
          · obtain ⟨rfl, rfl⟩ := hct
            rw [if_pos ⟨rfl, rfl⟩] at hoo
            have hw := hRB (by rw [hoo]; decide)
            rw [hoo] at hw
            have HW := hid hw
            clear hoo hw hRB hRL hRI hend
            go_wp2_with (first
                    | (with_reducible refine at_span ?_; refine wpList_span _ rfl _ _ _ 22 rfl .u8 5 1 Try.underlying22 Try.infoU8 (.slice a len cap) xs rfl (HS.out.below hbl.out) .i64 .i64 (0 : Int) (len : Int) rfl rfl (by omega) (by omega) (by have := HLE.out; omega) ?_; rw [Int.toNat_zero, Int.toNat_natCast, ← HY.out]; intro v3 hv3; have HV3 := hid hv3; clear hv3)
                    | (go_at_call 17; refine (refRead' _ ys _ HV3.out hyu HR.out).mono ?_; rintro x w1 ⟨rfl, hb1⟩; have HB1 := hid (hbl.out.trans (hb1.mono hbl.out.size)); have hz1 := HB1.out.size; have HO1 := hid (hown.out.below hb1); have HX1 := hid (Box.made w1 35 [.int .i64 0, .int .i64 0, .bool cons, .int .i64 (l : Int), .int .i64 (sz : Int)]); clear hb1))
            go_ret3
            rw [HW.out]
            exact ⟨rfl, HB1.out.alloc hz1 _⟩
          · rw [if_neg hct] at hoo
            by_cases hr : rightS ⟨cls, tag, cons, (l : Int), (sz : Int)⟩ = true
            · rw [if_neg (by simp [hr])] at hoo
              by_cases hL : (ys.length : Int) - sz < l
              · rw [if_pos hL] at hoo
                have hw := hRB (by rw [hoo]; decide)
                rw [hoo] at hw
                have HW := hid hw
                have hL2 : (len : Int) - 0 - sz < l := by omega
                clear hoo hw hRB hRL hRI hend
                by_cases hc : cls = 0
                · have htt : (tag == 0) = false := by simp; omega
                  subst hc
                  go_wp2_with (first
                          | (with_reducible refine at_span ?_; refine wpList_span _ rfl _ _ _ 22 rfl .u8 5 1 Try.underlying22 Try.infoU8 (.slice a len cap) xs rfl (HS.out.below hbl.out) .i64 .i64 (0 : Int) (len : Int) rfl rfl (by omega) (by omega) (by have := HLE.out; omega) ?_; rw [Int.toNat_zero, Int.toNat_natCast, ← HY.out]; intro v3 hv3; have HV3 := hid hv3; clear hv3)
                          | (go_at_call 17; refine (refRead' _ ys _ HV3.out hyu HR.out).mono ?_; rintro x w1 ⟨rfl, hb1⟩; have HB1 := hid (hbl.out.trans (hb1.mono hbl.out.size)); have hz1 := HB1.out.size; have HO1 := hid (hown.out.below hb1); have HX1 := hid (Box.made w1 35 [.int .i64 0, .int .i64 tag, .bool cons, .int .i64 (l : Int), .int .i64 (sz : Int)]); clear hb1)
                          | (go_at_call 25; refine (refRight ⟨0, tag, cons, (l : Int), (sz : Int)⟩ _).mono ?_; rw [hr]; rintro x w2 ⟨rfl, hb2⟩; have HX2 := hid (HX1.out.below hb2 (by simp)); have HB2 := hid ((HB1.out.alloc hz1 _).trans (hb2.mono (by simp; omega))); have HO2 := hid ((HO1.out.alloc (.cells #[.int .i64 0, .int .i64 tag, .bool cons, .int .i64 (l : Int), .int .i64 (sz : Int)] 35)).below hb2); have hz2 := HB2.out.size; obtain ⟨k0, k1, k2, k3, k4⟩ := HX2.out.five; obtain ⟨f0, f1, f2, f3, f4⟩ := HX2.out.ice5; have hlt2 := HX2.out.lt; clear hb2))
                  go_ret3
                  rw [HW.out]
                  exact ⟨rfl, HB2.out⟩
                · have hcc : (cls == 0) = false := by simp [hc]
                  go_wp2_with (first
                          | (with_reducible refine at_span ?_; refine wpList_span _ rfl _ _ _ 22 rfl .u8 5 1 Try.underlying22 Try.infoU8 (.slice a len cap) xs rfl (HS.out.below hbl.out) .i64 .i64 (0 : Int) (len : Int) rfl rfl (by omega) (by omega) (by have := HLE.out; omega) ?_; rw [Int.toNat_zero, Int.toNat_natCast, ← HY.out]; intro v3 hv3; have HV3 := hid hv3; clear hv3)
                          | (go_at_call 17; refine (refRead' _ ys _ HV3.out hyu HR.out).mono ?_; rintro x w1 ⟨rfl, hb1⟩; have HB1 := hid (hbl.out.trans (hb1.mono hbl.out.size)); have hz1 := HB1.out.size; have HO1 := hid (hown.out.below hb1); have HX1 := hid (Box.made w1 35 [.int .i64 cls, .int .i64 tag, .bool cons, .int .i64 (l : Int), .int .i64 (sz : Int)]); clear hb1)
                          | (go_at_call 25; refine (refRight ⟨cls, tag, cons, (l : Int), (sz : Int)⟩ _).mono ?_; rw [hr]; rintro x w2 ⟨rfl, hb2⟩; have HX2 := hid (HX1.out.below hb2 (by simp)); have HB2 := hid ((HB1.out.alloc hz1 _).trans (hb2.mono (by simp; omega))); have HO2 := hid ((HO1.out.alloc (.cells #[.int .i64 cls, .int .i64 tag, .bool cons, .int .i64 (l : Int), .int .i64 (sz : Int)] 35)).below hb2); have hz2 := HB2.out.size; obtain ⟨k0, k1, k2, k3, k4⟩ := HX2.out.five; obtain ⟨f0, f1, f2, f3, f4⟩ := HX2.out.ice5; have hlt2 := HX2.out.lt; clear hb2))
                  go_ret3
                  rw [HW.out]
                  exact ⟨rfl, HB2.out⟩
              · rw [if_neg hL] at hoo
                obtain ⟨i0, i1, i2⟩ := hend hoo
                have hRL := hRL hoo
                have hRI := hRI hoo
                have hszS : szS ys = sz := by unfold szS; rw [HR.out]; exact Int.toNat_natCast _
                have hendS : endS ys = sz + l := by unfold endS; rw [HR.out]; dsimp only; omega
                rw [hszS, hendS] at hRI
                rw [hendS] at hRL
                have hL2 : ¬ (len : Int) - 0 - sz < l := by omega
                have hpl2 : 0 + (sz + l) ≤ len := by omega
                have hsz2 : 2 ≤ sz := by omega
                have HRL := hid hRL
                have HRI := hid hRI
                clear hoo hRB hRL hRI hend hszS hendS i0 i1 i2
                cases cons
                · skip
                  by_cases hc : cls = 0
                  · have htt : (tag == 0) = false := by simp; omega
                    subst hc
                    have hwl := HRL.out (by simp)
                    rw [finW] at hwl
                    by_cases hfin : 0 + (sz + l) < xs.length
                    · rw [if_pos hfin] at hwl
                      have HWL := hid hwl
                      have hfin2 : (sz : Int) + (l : Int) < (len : Int) := by have := HLE.out; omega
                      clear hwl hfin
                      go_wp2_with (first
                              | (with_reducible refine at_span ?_; refine wpList_span _ rfl _ _ _ 22 rfl .u8 5 1 Try.underlying22 Try.infoU8 (.slice a len cap) xs rfl (HS.out.below hbl.out) .i64 .i64 (0 : Int) (len : Int) rfl rfl (by omega) (by omega) (by have := HLE.out; omega) ?_; rw [Int.toNat_zero, Int.toNat_natCast, ← HY.out]; intro v3 hv3; have HV3 := hid hv3; clear hv3)
                              | (go_at_call 17; refine (refRead' _ ys _ HV3.out hyu HR.out).mono ?_; rintro x w1 ⟨rfl, hb1⟩; have HB1 := hid (hbl.out.trans (hb1.mono hbl.out.size)); have hz1 := HB1.out.size; have HO1 := hid (hown.out.below hb1); have HX1 := hid (Box.made w1 35 [.int .i64 0, .int .i64 tag, .bool false, .int .i64 (l : Int), .int .i64 (sz : Int)]); clear hb1)
                              | (go_at_call 25; refine (refRight ⟨0, tag, false, (l : Int), (sz : Int)⟩ _).mono ?_; rw [hr]; rintro x w2 ⟨rfl, hb2⟩; have HX2 := hid (HX1.out.below hb2 (by simp)); have HB2 := hid ((HB1.out.alloc hz1 _).trans (hb2.mono (by simp; omega))); have HO2 := hid ((HO1.out.alloc (.cells #[.int .i64 0, .int .i64 tag, .bool false, .int .i64 (l : Int), .int .i64 (sz : Int)] 35)).below hb2); have hz2 := HB2.out.size; obtain ⟨k0, k1, k2, k3, k4⟩ := HX2.out.five; obtain ⟨f0, f1, f2, f3, f4⟩ := HX2.out.ice5; have hlt2 := HX2.out.lt; clear hb2))
                      all_goals go_ret3
                      all_goals rw [HWL.out]
                      all_goals exact ⟨ret_three (by first | rfl | (dsimp only; omega)) rfl rfl, HB2.out⟩
                    · rw [if_neg hfin] at hwl
                      have HWL := hid hwl
                      have hfin2 : ¬ (sz : Int) + (l : Int) < (len : Int) := by have := HLE.out; omega
                      clear hwl hfin
                      go_wp2_with (first
                              | (with_reducible refine at_span ?_; refine wpList_span _ rfl _ _ _ 22 rfl .u8 5 1 Try.underlying22 Try.infoU8 (.slice a len cap) xs rfl (HS.out.below hbl.out) .i64 .i64 (0 : Int) (len : Int) rfl rfl (by omega) (by omega) (by have := HLE.out; omega) ?_; rw [Int.toNat_zero, Int.toNat_natCast, ← HY.out]; intro v3 hv3; have HV3 := hid hv3; clear hv3)
                              | (go_at_call 17; refine (refRead' _ ys _ HV3.out hyu HR.out).mono ?_; rintro x w1 ⟨rfl, hb1⟩; have HB1 := hid (hbl.out.trans (hb1.mono hbl.out.size)); have hz1 := HB1.out.size; have HO1 := hid (hown.out.below hb1); have HX1 := hid (Box.made w1 35 [.int .i64 0, .int .i64 tag, .bool false, .int .i64 (l : Int), .int .i64 (sz : Int)]); clear hb1)
                              | (go_at_call 25; refine (refRight ⟨0, tag, false, (l : Int), (sz : Int)⟩ _).mono ?_; rw [hr]; rintro x w2 ⟨rfl, hb2⟩; have HX2 := hid (HX1.out.below hb2 (by simp)); have HB2 := hid ((HB1.out.alloc hz1 _).trans (hb2.mono (by simp; omega))); have HO2 := hid ((HO1.out.alloc (.cells #[.int .i64 0, .int .i64 tag, .bool false, .int .i64 (l : Int), .int .i64 (sz : Int)] 35)).below hb2); have hz2 := HB2.out.size; obtain ⟨k0, k1, k2, k3, k4⟩ := HX2.out.five; obtain ⟨f0, f1, f2, f3, f4⟩ := HX2.out.ice5; have hlt2 := HX2.out.lt; clear hb2))
                      all_goals go_ret3
                      all_goals rw [HWL.out]
                      all_goals exact ⟨ret_three rfl rfl rfl, HB2.out⟩
                  · have hcc : (cls == 0) = false := by simp [hc]
                    have hwl := HRL.out (by simp)
                    rw [finW] at hwl
                    by_cases hfin : 0 + (sz + l) < xs.length
                    · rw [if_pos hfin] at hwl
                      have HWL := hid hwl
                      have hfin2 : (sz : Int) + (l : Int) < (len : Int) := by have := HLE.out; omega
                      clear hwl hfin
                      go_wp2_with (first
                              | (with_reducible refine at_span ?_; refine wpList_span _ rfl _ _ _ 22 rfl .u8 5 1 Try.underlying22 Try.infoU8 (.slice a len cap) xs rfl (HS.out.below hbl.out) .i64 .i64 (0 : Int) (len : Int) rfl rfl (by omega) (by omega) (by have := HLE.out; omega) ?_; rw [Int.toNat_zero, Int.toNat_natCast, ← HY.out]; intro v3 hv3; have HV3 := hid hv3; clear hv3)
                              | (go_at_call 17; refine (refRead' _ ys _ HV3.out hyu HR.out).mono ?_; rintro x w1 ⟨rfl, hb1⟩; have HB1 := hid (hbl.out.trans (hb1.mono hbl.out.size)); have hz1 := HB1.out.size; have HO1 := hid (hown.out.below hb1); have HX1 := hid (Box.made w1 35 [.int .i64 cls, .int .i64 tag, .bool false, .int .i64 (l : Int), .int .i64 (sz : Int)]); clear hb1)
                              | (go_at_call 25; refine (refRight ⟨cls, tag, false, (l : Int), (sz : Int)⟩ _).mono ?_; rw [hr]; rintro x w2 ⟨rfl, hb2⟩; have HX2 := hid (HX1.out.below hb2 (by simp)); have HB2 := hid ((HB1.out.alloc hz1 _).trans (hb2.mono (by simp; omega))); have HO2 := hid ((HO1.out.alloc (.cells #[.int .i64 cls, .int .i64 tag, .bool false, .int .i64 (l : Int), .int .i64 (sz : Int)] 35)).below hb2); have hz2 := HB2.out.size; obtain ⟨k0, k1, k2, k3, k4⟩ := HX2.out.five; obtain ⟨f0, f1, f2, f3, f4⟩ := HX2.out.ice5; have hlt2 := HX2.out.lt; clear hb2))
                      all_goals go_ret3
                      all_goals rw [HWL.out]
                      all_goals exact ⟨ret_three (by first | rfl | (dsimp only; omega)) rfl rfl, HB2.out⟩
                    · rw [if_neg hfin] at hwl
                      have HWL := hid hwl
                      have hfin2 : ¬ (sz : Int) + (l : Int) < (len : Int) := by have := HLE.out; omega
                      clear hwl hfin
                      go_wp2_with (first
                              | (with_reducible refine at_span ?_; refine wpList_span _ rfl _ _ _ 22 rfl .u8 5 1 Try.underlying22 Try.infoU8 (.slice a len cap) xs rfl (HS.out.below hbl.out) .i64 .i64 (0 : Int) (len : Int) rfl rfl (by omega) (by omega) (by have := HLE.out; omega) ?_; rw [Int.toNat_zero, Int.toNat_natCast, ← HY.out]; intro v3 hv3; have HV3 := hid hv3; clear hv3)
                              | (go_at_call 17; refine (refRead' _ ys _ HV3.out hyu HR.out).mono ?_; rintro x w1 ⟨rfl, hb1⟩; have HB1 := hid (hbl.out.trans (hb1.mono hbl.out.size)); have hz1 := HB1.out.size; have HO1 := hid (hown.out.below hb1); have HX1 := hid (Box.made w1 35 [.int .i64 cls, .int .i64 tag, .bool false, .int .i64 (l : Int), .int .i64 (sz : Int)]); clear hb1)
                              | (go_at_call 25; refine (refRight ⟨cls, tag, false, (l : Int), (sz : Int)⟩ _).mono ?_; rw [hr]; rintro x w2 ⟨rfl, hb2⟩; have HX2 := hid (HX1.out.below hb2 (by simp)); have HB2 := hid ((HB1.out.alloc hz1 _).trans (hb2.mono (by simp; omega))); have HO2 := hid ((HO1.out.alloc (.cells #[.int .i64 cls, .int .i64 tag, .bool false, .int .i64 (l : Int), .int .i64 (sz : Int)] 35)).below hb2); have hz2 := HB2.out.size; obtain ⟨k0, k1, k2, k3, k4⟩ := HX2.out.five; obtain ⟨f0, f1, f2, f3, f4⟩ := HX2.out.ice5; have hlt2 := HX2.out.lt; clear hb2))
                      all_goals go_ret3
                      all_goals rw [HWL.out]
                      all_goals exact ⟨ret_three rfl rfl rfl, HB2.out⟩
                · skip
                  by_cases hc : cls = 0
                  · have htt : (tag == 0) = false := by simp; omega
                    subst hc
                    go_wp2_with (first
                            | (with_reducible refine at_span ?_; refine wpList_span _ rfl _ _ _ 22 rfl .u8 5 1 Try.underlying22 Try.infoU8 (.slice a len cap) xs rfl (HS.out.below hbl.out) .i64 .i64 (0 : Int) (len : Int) rfl rfl (by omega) (by omega) (by have := HLE.out; omega) ?_; rw [Int.toNat_zero, Int.toNat_natCast, ← HY.out]; intro v3 hv3; have HV3 := hid hv3; clear hv3)
                            | (go_at_call 17; refine (refRead' _ ys _ HV3.out hyu HR.out).mono ?_; rintro x w1 ⟨rfl, hb1⟩; have HB1 := hid (hbl.out.trans (hb1.mono hbl.out.size)); have hz1 := HB1.out.size; have HO1 := hid (hown.out.below hb1); have HX1 := hid (Box.made w1 35 [.int .i64 0, .int .i64 tag, .bool true, .int .i64 (l : Int), .int .i64 (sz : Int)]); clear hb1)
                            | (go_at_call 25; refine (refRight ⟨0, tag, true, (l : Int), (sz : Int)⟩ _).mono ?_; rw [hr]; rintro x w2 ⟨rfl, hb2⟩; have HX2 := hid (HX1.out.below hb2 (by simp)); have HB2 := hid ((HB1.out.alloc hz1 _).trans (hb2.mono (by simp; omega))); have HO2 := hid ((HO1.out.alloc (.cells #[.int .i64 0, .int .i64 tag, .bool true, .int .i64 (l : Int), .int .i64 (sz : Int)] 35)).below hb2); have hz2 := HB2.out.size; obtain ⟨k0, k1, k2, k3, k4⟩ := HX2.out.five; obtain ⟨f0, f1, f2, f3, f4⟩ := HX2.out.ice5; have hlt2 := HX2.out.lt; clear hb2)
                            | (at_builtin; refine wpList_app _ rfl _ _ 52 rfl .i64 w.heap.size 3 8 Try.underlying52 Try.infoInt (.slice a5 0 c5) (stk ([] : List Nat)) [(sz : Int) + (l : Int)] rfl (HO2.out.alloc _) _ rfl (one_sl rfl) (by rw [stk_len]; unfold maxLen; simp <;> omega) (by rw [stk_len]; simp <;> omega) (by simp <;> omega) ?_; intro v6 w6 ho6 hg6 hb6 hn6; have HO6 := hid ho6; have HB6 := hid ((HB2.out.alloc hz2 (.cells #[.int .i64 ((sz : Int) + (l : Int))] 3)).trans hb6); have HX6 := hid ((HX2.out.alloc _).grown (HO2.out.alloc _) hg6 (by decide)); obtain ⟨k0, k1, k2, k3, k4⟩ := HX6.out.five; obtain ⟨f0, f1, f2, f3, f4⟩ := HX6.out.ice5; have hlt6 := HX6.out.lt; clear ho6 hb6 hg6 hn6))
                    all_goals
                      go_roundw
                      case rel => exact ⟨(0 + (sz + l)) :: ([] : List Nat), 0 + sz, max 0 (1), by go_num, by first | rfl | (congr 1; omega) | (congr 1; split <;> omega) | go_num, by omega, by omega, (by have := HO6.out; show Own _ _ _ _ _ _; rw [stk_push]; have e1 : (((0 + (sz + l) : Nat) : Int)) = (sz : Int) + (l : Int) := (by omega); rw [e1]; exact this), HB6, .inr ⟨by simp, HRI.out (by simp), by simp <;> omega, by simp <;> omega, by omega, by omega, by have := HLE.out; show _ ≤ _; omega⟩⟩
                      case measure => simp [intOf]; omega
                  · have hcc : (cls == 0) = false := by simp [hc]
                    go_wp2_with (first
                            | (with_reducible refine at_span ?_; refine wpList_span _ rfl _ _ _ 22 rfl .u8 5 1 Try.underlying22 Try.infoU8 (.slice a len cap) xs rfl (HS.out.below hbl.out) .i64 .i64 (0 : Int) (len : Int) rfl rfl (by omega) (by omega) (by have := HLE.out; omega) ?_; rw [Int.toNat_zero, Int.toNat_natCast, ← HY.out]; intro v3 hv3; have HV3 := hid hv3; clear hv3)
                            | (go_at_call 17; refine (refRead' _ ys _ HV3.out hyu HR.out).mono ?_; rintro x w1 ⟨rfl, hb1⟩; have HB1 := hid (hbl.out.trans (hb1.mono hbl.out.size)); have hz1 := HB1.out.size; have HO1 := hid (hown.out.below hb1); have HX1 := hid (Box.made w1 35 [.int .i64 cls, .int .i64 tag, .bool true, .int .i64 (l : Int), .int .i64 (sz : Int)]); clear hb1)
                            | (go_at_call 25; refine (refRight ⟨cls, tag, true, (l : Int), (sz : Int)⟩ _).mono ?_; rw [hr]; rintro x w2 ⟨rfl, hb2⟩; have HX2 := hid (HX1.out.below hb2 (by simp)); have HB2 := hid ((HB1.out.alloc hz1 _).trans (hb2.mono (by simp; omega))); have HO2 := hid ((HO1.out.alloc (.cells #[.int .i64 cls, .int .i64 tag, .bool true, .int .i64 (l : Int), .int .i64 (sz : Int)] 35)).below hb2); have hz2 := HB2.out.size; obtain ⟨k0, k1, k2, k3, k4⟩ := HX2.out.five; obtain ⟨f0, f1, f2, f3, f4⟩ := HX2.out.ice5; have hlt2 := HX2.out.lt; clear hb2)
                            | (at_builtin; refine wpList_app _ rfl _ _ 52 rfl .i64 w.heap.size 3 8 Try.underlying52 Try.infoInt (.slice a5 0 c5) (stk ([] : List Nat)) [(sz : Int) + (l : Int)] rfl (HO2.out.alloc _) _ rfl (one_sl rfl) (by rw [stk_len]; unfold maxLen; simp <;> omega) (by rw [stk_len]; simp <;> omega) (by simp <;> omega) ?_; intro v6 w6 ho6 hg6 hb6 hn6; have HO6 := hid ho6; have HB6 := hid ((HB2.out.alloc hz2 (.cells #[.int .i64 ((sz : Int) + (l : Int))] 3)).trans hb6); have HX6 := hid ((HX2.out.alloc _).grown (HO2.out.alloc _) hg6 (by decide)); obtain ⟨k0, k1, k2, k3, k4⟩ := HX6.out.five; obtain ⟨f0, f1, f2, f3, f4⟩ := HX6.out.ice5; have hlt6 := HX6.out.lt; clear ho6 hb6 hg6 hn6))
                    all_goals
                      go_roundw
                      case rel => exact ⟨(0 + (sz + l)) :: ([] : List Nat), 0 + sz, max 0 (1), by go_num, by first | rfl | (congr 1; omega) | (congr 1; split <;> omega) | go_num, by omega, by omega, (by have := HO6.out; show Own _ _ _ _ _ _; rw [stk_push]; have e1 : (((0 + (sz + l) : Nat) : Int)) = (sz : Int) + (l : Int) := (by omega); rw [e1]; exact this), HB6, .inr ⟨by simp, HRI.out (by simp), by simp <;> omega, by simp <;> omega, by omega, by omega, by have := HLE.out; show _ ≤ _; omega⟩⟩
                      case measure => simp [intOf]; omega
            · have hr : rightS ⟨cls, tag, cons, (l : Int), (sz : Int)⟩ = false := by simpa using hr
              rw [if_pos hr] at hoo
              have hw := hRB (by rw [hoo]; decide)
              rw [hoo] at hw
              have HW := hid hw
              clear hoo hw hRB hRL hRI hend
              by_cases hc : cls = 0
              · have htt : (tag == 0) = false := by simp; omega
                subst hc
                go_wp2_with (first
                        | (with_reducible refine at_span ?_; refine wpList_span _ rfl _ _ _ 22 rfl .u8 5 1 Try.underlying22 Try.infoU8 (.slice a len cap) xs rfl (HS.out.below hbl.out) .i64 .i64 (0 : Int) (len : Int) rfl rfl (by omega) (by omega) (by have := HLE.out; omega) ?_; rw [Int.toNat_zero, Int.toNat_natCast, ← HY.out]; intro v3 hv3; have HV3 := hid hv3; clear hv3)
                        | (go_at_call 17; refine (refRead' _ ys _ HV3.out hyu HR.out).mono ?_; rintro x w1 ⟨rfl, hb1⟩; have HB1 := hid (hbl.out.trans (hb1.mono hbl.out.size)); have hz1 := HB1.out.size; have HO1 := hid (hown.out.below hb1); have HX1 := hid (Box.made w1 35 [.int .i64 0, .int .i64 tag, .bool cons, .int .i64 (l : Int), .int .i64 (sz : Int)]); clear hb1)
                        | (go_at_call 25; refine (refRight ⟨0, tag, cons, (l : Int), (sz : Int)⟩ _).mono ?_; rw [hr]; rintro x w2 ⟨rfl, hb2⟩; have HX2 := hid (HX1.out.below hb2 (by simp)); have HB2 := hid ((HB1.out.alloc hz1 _).trans (hb2.mono (by simp; omega))); have HO2 := hid ((HO1.out.alloc (.cells #[.int .i64 0, .int .i64 tag, .bool cons, .int .i64 (l : Int), .int .i64 (sz : Int)] 35)).below hb2); have hz2 := HB2.out.size; obtain ⟨k0, k1, k2, k3, k4⟩ := HX2.out.five; obtain ⟨f0, f1, f2, f3, f4⟩ := HX2.out.ice5; have hlt2 := HX2.out.lt; clear hb2))
                go_ret3
                rw [HW.out]
                exact ⟨rfl, HB2.out⟩
              · have hcc : (cls == 0) = false := by simp [hc]
                go_wp2_with (first
                        | (with_reducible refine at_span ?_; refine wpList_span _ rfl _ _ _ 22 rfl .u8 5 1 Try.underlying22 Try.infoU8 (.slice a len cap) xs rfl (HS.out.below hbl.out) .i64 .i64 (0 : Int) (len : Int) rfl rfl (by omega) (by omega) (by have := HLE.out; omega) ?_; rw [Int.toNat_zero, Int.toNat_natCast, ← HY.out]; intro v3 hv3; have HV3 := hid hv3; clear hv3)
                        | (go_at_call 17; refine (refRead' _ ys _ HV3.out hyu HR.out).mono ?_; rintro x w1 ⟨rfl, hb1⟩; have HB1 := hid (hbl.out.trans (hb1.mono hbl.out.size)); have hz1 := HB1.out.size; have HO1 := hid (hown.out.below hb1); have HX1 := hid (Box.made w1 35 [.int .i64 cls, .int .i64 tag, .bool cons, .int .i64 (l : Int), .int .i64 (sz : Int)]); clear hb1)
                        | (go_at_call 25; refine (refRight ⟨cls, tag, cons, (l : Int), (sz : Int)⟩ _).mono ?_; rw [hr]; rintro x w2 ⟨rfl, hb2⟩; have HX2 := hid (HX1.out.below hb2 (by simp)); have HB2 := hid ((HB1.out.alloc hz1 _).trans (hb2.mono (by simp; omega))); have HO2 := hid ((HO1.out.alloc (.cells #[.int .i64 cls, .int .i64 tag, .bool cons, .int .i64 (l : Int), .int .i64 (sz : Int)] 35)).below hb2); have hz2 := HB2.out.size; obtain ⟨k0, k1, k2, k3, k4⟩ := HX2.out.five; obtain ⟨f0, f1, f2, f3, f4⟩ := HX2.out.ice5; have hlt2 := HX2.out.lt; clear hb2))
                go_ret3
                rw [HW.out]
                exact ⟨rfl, HB2.out⟩
        · rw [if_pos hE] at hoo
          have hw := hRB (by rw [hoo]; exact hE)
          rw [hoo] at hw
          have HW := hid hw
          have hE1 : (E != 0) = true := by simp [hE]
          clear hoo hw hRB hRL hRI hend hE hbd
          go_wp2_with (first
                  | (with_reducible refine at_span ?_; refine wpList_span _ rfl _ _ _ 22 rfl .u8 5 1 Try.underlying22 Try.infoU8 (.slice a len cap) xs rfl (HS.out.below hbl.out) .i64 .i64 (0 : Int) (len : Int) rfl rfl (by omega) (by omega) (by have := HLE.out; omega) ?_; rw [Int.toNat_zero, Int.toNat_natCast, ← HY.out]; intro v3 hv3; have HV3 := hid hv3; clear hv3)
                  | (go_at_call 17; refine (refRead' _ ys _ HV3.out hyu HR.out).mono ?_; rintro x w1 ⟨rfl, hb1⟩; have HB1 := hid (hbl.out.trans (hb1.mono hbl.out.size)); have hz1 := HB1.out.size; have HO1 := hid (hown.out.below hb1); have HX1 := hid (Box.made w1 35 [.int .i64 cls, .int .i64 tag, .bool cons, .int .i64 ln, .int .i64 size]); clear hb1))
          go_ret3
          rw [HW.out]
          exact ⟨rfl, HB1.out.alloc hz1 _⟩
    · obtain ⟨a5, c5, hv5⟩ := own_form hown.out
      subst hv5
      have hst0 : 0 < st.length := List.length_pos_iff.2 hne
      go_wp2
      go_loopw [5] (fun v wr2 => ∃ st2, wr2 = wr ∧ st2 ≠ [] ∧ Hid (Own .i64 3 w.heap.size wr v (stk st2)) ∧ Hid (St xs st2 p dp)) (fun v _ => lenOf v)
      case atStart => exact ⟨st, rfl, hne, hown, hSt⟩
      case round =>
        obtain ⟨st2, rfl, hne2, hown2, hSt2⟩ := hrel
        clear hown hst hSt hne hst0
        obtain ⟨e, st3, rfl⟩ : ∃ e st3, st2 = e :: st3 := by cases st2 with | nil => exact absurd rfl hne2 | cons e t => exact ⟨e, t, rfl⟩
        obtain ⟨g, c5, hv, hcell, hg⟩ := own_top hown2.out
        subst hv
        have hSt2 := hSt2.out
        have hup := hSt2.2.2.2.2
        have hpe : p ≤ e := hup.1
        have hex : e ≤ xs.length := Up.le hup.2
        have hlen2 : st3.length + 1 ≤ dp := hSt2.2.1
        by_cases hep : e = p
        · obtain rfl : p = e := hep.symm
          have hpop := fin_pop (b := xs) (st := st3) (p := p) (dp := dp) hlen2
          rw [← hSt2.1] at hpop
          rcases Nat.eq_zero_or_pos st3.length with h0 | h0
          · have hs3 : st3 = [] := List.eq_nil_of_length_eq_zero h0
            subst hs3
            rw [finW] at hpop
            simp only [List.length_nil] at *
            by_cases hpl : p < xs.length
            · rw [if_pos hpl] at hpop
              have HP := hid hpop
              have hpl2 : (p : Int) < (len : Int) := by have := HLE.out; omega
              clear hpop hSt2
              go_wp2_with (with_reducible refine at_to ?_; refine wpList_toOwn _ rfl _ _ 52 rfl .i64 3 w.heap.size 8 Try.underlying52 Try.infoInt (.slice (some ⟨g, 0, none⟩) (0 + 1) c5) (stk [p]) rfl hown2.out .i64 0 rfl (by omega) (by rw [stk_len]; simp) ?_; rw [show ((0 : Int)).toNat = ([] : List Nat).length from rfl, stk_pop]; intro v6 ho6; obtain ⟨a6, c6, hv6⟩ := own_form ho6; subst hv6; have HO6 := hid ho6; clear ho6)
              go_ret3
              rw [HP.out]
              exact ⟨rfl, hbl.out⟩
            · rw [if_neg hpl] at hpop
              have HP := hid hpop
              have hpl2 : ¬ (p : Int) < (len : Int) := by have := HLE.out; omega
              clear hpop hSt2
              go_wp2_with (with_reducible refine at_to ?_; refine wpList_toOwn _ rfl _ _ 52 rfl .i64 3 w.heap.size 8 Try.underlying52 Try.infoInt (.slice (some ⟨g, 0, none⟩) (0 + 1) c5) (stk [p]) rfl hown2.out .i64 0 rfl (by omega) (by rw [stk_len]; simp) ?_; rw [show ((0 : Int)).toNat = ([] : List Nat).length from rfl, stk_pop]; intro v6 ho6; obtain ⟨a6, c6, hv6⟩ := own_form ho6; subst hv6; have HO6 := hid ho6; clear ho6)
              go_ret3
              rw [HP.out]
              exact ⟨rfl, hbl.out⟩
          · have h00 : ((st3.length : Int) == 0) = false := beq_eq_false_iff_ne.2 (by omega)
            have HST : Hid (St xs st3 p dp) := ⟨hpop, by omega, by have := hSt2.2.2.1; simp at this; omega, hSt2.2.2.2.1, hup.2⟩
            clear hpop hSt2
            go_wp2_with (with_reducible refine at_to ?_; refine wpList_toOwn _ rfl _ _ 52 rfl .i64 3 w.heap.size 8 Try.underlying52 Try.infoInt (.slice (some ⟨g, 0, none⟩) (st3.length + 1) c5) (stk (p :: st3)) rfl hown2.out .i64 (st3.length : Int) rfl (by omega) (by rw [stk_len]; simp; omega) ?_; rw [Int.toNat_natCast, stk_pop]; intro v6 ho6; obtain ⟨a6, c6, hv6⟩ := own_form ho6; subst hv6; have HO6 := hid ho6; clear ho6)
            go_roundw
            case rel => exact ⟨st3, by first | rfl | trivial, List.length_pos_iff.1 h0, HO6, HST⟩
            case measure => simp [lenOf]
        · have hpe : p < e := by omega
          have hee : ((e : Int) == (p : Int)) = false := beq_eq_false_iff_ne.2 (by omega)
          have HUP := hid hup
          have hkk : st3.length ≤ 31 := by have := hSt2.2.2.1; simp at this; omega
          have hlx : e ≤ len := by rw [HLE.out]; exact hex
          by_cases h31 : 31 ≤ st3.length
          · have hw := fin_deep (dp := dp) h31 hpe hex
            rw [← hSt2.1] at hw
            have HW := hid hw
            clear hw hSt2
            have h32 : (32 : Int) ≤ (st3.length : Int) + 1 := by omega
            go_wp2
            go_ret3
            rw [HW.out]
            exact ⟨rfl, hbl.out⟩
          have h32 : ¬ (32 : Int) ≤ (st3.length : Int) + 1 := by omega
          obtain ⟨ys, hys⟩ : ∃ ys, ys = (xs.drop p).take (e - p) := ⟨_, rfl⟩
          have hyl : ys.length = e - p := by rw [hys, List.length_take, List.length_drop]; have := HLE.out; omega
          have hyu : U8 ys := by rw [hys]; exact (HU.out.drop _).take _
          have hK : st3.length < 31 := by omega
          have hRB : headE ys ≠ 0 → wellS xs = ⟨headE ys, p, 0⟩ := fun h => by rw [hys] at h ⊢; rw [hSt2.1]; exact fin_bad hK hpe hex h
          have hRL : headE ys = 0 → ¬ (rd ys).1.cons = true → wellS xs = finW xs (e :: st3) (p + endS ys) (max dp (st3.length + 2)) := fun h h' => by rw [hys] at h h' ⊢; rw [hSt2.1]; exact fin_leaf hK HU.out hpe hex h h'
          have hRI : headE ys = 0 → (rd ys).1.cons = true → wellS xs = finW xs ((p + endS ys) :: e :: st3) (p + szS ys) (max dp (st3.length + 2)) := fun h h' => by rw [hys] at h h' ⊢; rw [hSt2.1]; exact fin_in hK HU.out hpe hex h h'
          have HY := hid hys
          clear hys
          have hbd := rd_bd ys hyu
          have hend := fun h => ends_of hyu h
          have hoo : headE ys = headE ys := rfl
          conv at hoo => rhs; unfold headE
          obtain ⟨⟨cls, tag, cons, ln, size⟩, E, hrd⟩ : ∃ h E, rd ys = (h, E) := ⟨_, _, rfl⟩
          have HR := hid hrd
          rw [hrd] at hbd hoo hRL hRI
          dsimp only at hbd hoo hRL hRI
          clear hrd
          by_cases hE : E = 0
          · subst hE
            obtain ⟨hok, s0, s1⟩ := hbd rfl
            rw [if_neg (by simp)] at hoo
            obtain ⟨l0, l1⟩ : 0 ≤ ln ∧ ln ≤ 2147483647 := hok.2.2
            clear hbd hok
            obtain ⟨sz, rfl⟩ := Int.eq_ofNat_of_zero_le (show 0 ≤ size by omega)
            obtain ⟨l, rfl⟩ := Int.eq_ofNat_of_zero_le l0
            have hpl : (p : Nat) + sz ≤ 1000000000000 := by omega
            by_cases hct : cls = 0 ∧ tag = 0
            · obtain ⟨rfl, rfl⟩ := hct
              rw [if_pos ⟨rfl, rfl⟩] at hoo
              have hw := hRB (by rw [hoo]; decide)
              rw [hoo] at hw
              have HW := hid hw
              clear hoo hw hRB hRL hRI hend
              go_wp2_with (first
                      | (with_reducible refine at_span ?_; refine wpList_span _ rfl _ _ _ 22 rfl .u8 5 1 Try.underlying22 Try.infoU8 (.slice a len cap) xs rfl (HS.out.below hbl.out) .i64 .i64 (p : Int) (e : Int) rfl rfl (by omega) (by omega) (by have := HLE.out; omega) ?_; rw [Int.toNat_natCast, Int.toNat_natCast, ← HY.out]; intro v3 hv3; have HV3 := hid hv3; clear hv3)
                      | (go_at_call 17; refine (refRead' _ ys _ HV3.out hyu HR.out).mono ?_; rintro x w1 ⟨rfl, hb1⟩; have HB1 := hid (hbl.out.trans (hb1.mono hbl.out.size)); have hz1 := HB1.out.size; have HO1 := hid (hown2.out.below hb1); have HX1 := hid (Box.made w1 35 [.int .i64 0, .int .i64 0, .bool cons, .int .i64 (l : Int), .int .i64 (sz : Int)]); clear hb1))
              go_ret3
              rw [HW.out]
              exact ⟨rfl, HB1.out.alloc hz1 _⟩
            · rw [if_neg hct] at hoo
              by_cases hr : rightS ⟨cls, tag, cons, (l : Int), (sz : Int)⟩ = true
              · rw [if_neg (by simp [hr])] at hoo
                by_cases hL : (ys.length : Int) - sz < l
                · rw [if_pos hL] at hoo
                  have hw := hRB (by rw [hoo]; decide)
                  rw [hoo] at hw
                  have HW := hid hw
                  have hL2 : (e : Int) - p - sz < l := by omega
                  clear hoo hw hRB hRL hRI hend
                  by_cases hc : cls = 0
                  · have htt : (tag == 0) = false := by simp; omega
                    subst hc
                    go_wp2_with (first
                            | (with_reducible refine at_span ?_; refine wpList_span _ rfl _ _ _ 22 rfl .u8 5 1 Try.underlying22 Try.infoU8 (.slice a len cap) xs rfl (HS.out.below hbl.out) .i64 .i64 (p : Int) (e : Int) rfl rfl (by omega) (by omega) (by have := HLE.out; omega) ?_; rw [Int.toNat_natCast, Int.toNat_natCast, ← HY.out]; intro v3 hv3; have HV3 := hid hv3; clear hv3)
                            | (go_at_call 17; refine (refRead' _ ys _ HV3.out hyu HR.out).mono ?_; rintro x w1 ⟨rfl, hb1⟩; have HB1 := hid (hbl.out.trans (hb1.mono hbl.out.size)); have hz1 := HB1.out.size; have HO1 := hid (hown2.out.below hb1); have HX1 := hid (Box.made w1 35 [.int .i64 0, .int .i64 tag, .bool cons, .int .i64 (l : Int), .int .i64 (sz : Int)]); clear hb1)
                            | (go_at_call 25; refine (refRight ⟨0, tag, cons, (l : Int), (sz : Int)⟩ _).mono ?_; rw [hr]; rintro x w2 ⟨rfl, hb2⟩; have HX2 := hid (HX1.out.below hb2 (by simp)); have HB2 := hid ((HB1.out.alloc hz1 _).trans (hb2.mono (by simp; omega))); have HO2 := hid ((HO1.out.alloc (.cells #[.int .i64 0, .int .i64 tag, .bool cons, .int .i64 (l : Int), .int .i64 (sz : Int)] 35)).below hb2); have hz2 := HB2.out.size; obtain ⟨k0, k1, k2, k3, k4⟩ := HX2.out.five; obtain ⟨f0, f1, f2, f3, f4⟩ := HX2.out.ice5; have hlt2 := HX2.out.lt; clear hb2))
                    go_ret3
                    rw [HW.out]
                    exact ⟨rfl, HB2.out⟩
                  · have hcc : (cls == 0) = false := by simp [hc]
                    go_wp2_with (first
                            | (with_reducible refine at_span ?_; refine wpList_span _ rfl _ _ _ 22 rfl .u8 5 1 Try.underlying22 Try.infoU8 (.slice a len cap) xs rfl (HS.out.below hbl.out) .i64 .i64 (p : Int) (e : Int) rfl rfl (by omega) (by omega) (by have := HLE.out; omega) ?_; rw [Int.toNat_natCast, Int.toNat_natCast, ← HY.out]; intro v3 hv3; have HV3 := hid hv3; clear hv3)
                            | (go_at_call 17; refine (refRead' _ ys _ HV3.out hyu HR.out).mono ?_; rintro x w1 ⟨rfl, hb1⟩; have HB1 := hid (hbl.out.trans (hb1.mono hbl.out.size)); have hz1 := HB1.out.size; have HO1 := hid (hown2.out.below hb1); have HX1 := hid (Box.made w1 35 [.int .i64 cls, .int .i64 tag, .bool cons, .int .i64 (l : Int), .int .i64 (sz : Int)]); clear hb1)
                            | (go_at_call 25; refine (refRight ⟨cls, tag, cons, (l : Int), (sz : Int)⟩ _).mono ?_; rw [hr]; rintro x w2 ⟨rfl, hb2⟩; have HX2 := hid (HX1.out.below hb2 (by simp)); have HB2 := hid ((HB1.out.alloc hz1 _).trans (hb2.mono (by simp; omega))); have HO2 := hid ((HO1.out.alloc (.cells #[.int .i64 cls, .int .i64 tag, .bool cons, .int .i64 (l : Int), .int .i64 (sz : Int)] 35)).below hb2); have hz2 := HB2.out.size; obtain ⟨k0, k1, k2, k3, k4⟩ := HX2.out.five; obtain ⟨f0, f1, f2, f3, f4⟩ := HX2.out.ice5; have hlt2 := HX2.out.lt; clear hb2))
                    go_ret3
                    rw [HW.out]
                    exact ⟨rfl, HB2.out⟩
                · rw [if_neg hL] at hoo
                  obtain ⟨i0, i1, i2⟩ := hend hoo
                  have hRL := hRL hoo
                  have hRI := hRI hoo
                  have hszS : szS ys = sz := by unfold szS; rw [HR.out]; exact Int.toNat_natCast _
                  have hendS : endS ys = sz + l := by unfold endS; rw [HR.out]; dsimp only; omega
                  rw [hszS, hendS] at hRI
                  rw [hendS] at hRL
                  have hL2 : ¬ (e : Int) - p - sz < l := by omega
                  have hpl2 : p + (sz + l) ≤ e := by omega
                  have hsz2 : 2 ≤ sz := by omega
                  have HRL := hid hRL
                  have HRI := hid hRI
                  clear hoo hRB hRL hRI hend hszS hendS i0 i1 i2
                  cases cons
                  · skip
                    by_cases hc : cls = 0
                    · have htt : (tag == 0) = false := by simp; omega
                      subst hc
                      go_wp2_with (first
                              | (with_reducible refine at_span ?_; refine wpList_span _ rfl _ _ _ 22 rfl .u8 5 1 Try.underlying22 Try.infoU8 (.slice a len cap) xs rfl (HS.out.below hbl.out) .i64 .i64 (p : Int) (e : Int) rfl rfl (by omega) (by omega) (by have := HLE.out; omega) ?_; rw [Int.toNat_natCast, Int.toNat_natCast, ← HY.out]; intro v3 hv3; have HV3 := hid hv3; clear hv3)
                              | (go_at_call 17; refine (refRead' _ ys _ HV3.out hyu HR.out).mono ?_; rintro x w1 ⟨rfl, hb1⟩; have HB1 := hid (hbl.out.trans (hb1.mono hbl.out.size)); have hz1 := HB1.out.size; have HO1 := hid (hown2.out.below hb1); have HX1 := hid (Box.made w1 35 [.int .i64 0, .int .i64 tag, .bool false, .int .i64 (l : Int), .int .i64 (sz : Int)]); clear hb1)
                              | (go_at_call 25; refine (refRight ⟨0, tag, false, (l : Int), (sz : Int)⟩ _).mono ?_; rw [hr]; rintro x w2 ⟨rfl, hb2⟩; have HX2 := hid (HX1.out.below hb2 (by simp)); have HB2 := hid ((HB1.out.alloc hz1 _).trans (hb2.mono (by simp; omega))); have HO2 := hid ((HO1.out.alloc (.cells #[.int .i64 0, .int .i64 tag, .bool false, .int .i64 (l : Int), .int .i64 (sz : Int)] 35)).below hb2); have hz2 := HB2.out.size; obtain ⟨k0, k1, k2, k3, k4⟩ := HX2.out.five; obtain ⟨f0, f1, f2, f3, f4⟩ := HX2.out.ice5; have hlt2 := HX2.out.lt; clear hb2))
                      all_goals
                        go_roundw
                        case rel => exact ⟨e :: st3, p + (sz + l), max dp (st3.length + 2), by go_num, by first | rfl | (congr 1; omega) | (congr 1; split <;> omega) | go_num, by omega, by omega, HO2, HB2, .inr ⟨by simp, HRL.out (by simp), by simp <;> omega, by simp <;> omega, by omega, by omega, HUP.out.2⟩⟩
                        case measure => simp [intOf]; omega
                    · have hcc : (cls == 0) = false := by simp [hc]
                      go_wp2_with (first
                              | (with_reducible refine at_span ?_; refine wpList_span _ rfl _ _ _ 22 rfl .u8 5 1 Try.underlying22 Try.infoU8 (.slice a len cap) xs rfl (HS.out.below hbl.out) .i64 .i64 (p : Int) (e : Int) rfl rfl (by omega) (by omega) (by have := HLE.out; omega) ?_; rw [Int.toNat_natCast, Int.toNat_natCast, ← HY.out]; intro v3 hv3; have HV3 := hid hv3; clear hv3)
                              | (go_at_call 17; refine (refRead' _ ys _ HV3.out hyu HR.out).mono ?_; rintro x w1 ⟨rfl, hb1⟩; have HB1 := hid (hbl.out.trans (hb1.mono hbl.out.size)); have hz1 := HB1.out.size; have HO1 := hid (hown2.out.below hb1); have HX1 := hid (Box.made w1 35 [.int .i64 cls, .int .i64 tag, .bool false, .int .i64 (l : Int), .int .i64 (sz : Int)]); clear hb1)
                              | (go_at_call 25; refine (refRight ⟨cls, tag, false, (l : Int), (sz : Int)⟩ _).mono ?_; rw [hr]; rintro x w2 ⟨rfl, hb2⟩; have HX2 := hid (HX1.out.below hb2 (by simp)); have HB2 := hid ((HB1.out.alloc hz1 _).trans (hb2.mono (by simp; omega))); have HO2 := hid ((HO1.out.alloc (.cells #[.int .i64 cls, .int .i64 tag, .bool false, .int .i64 (l : Int), .int .i64 (sz : Int)] 35)).below hb2); have hz2 := HB2.out.size; obtain ⟨k0, k1, k2, k3, k4⟩ := HX2.out.five; obtain ⟨f0, f1, f2, f3, f4⟩ := HX2.out.ice5; have hlt2 := HX2.out.lt; clear hb2))
                      all_goals
                        go_roundw
                        case rel => exact ⟨e :: st3, p + (sz + l), max dp (st3.length + 2), by go_num, by first | rfl | (congr 1; omega) | (congr 1; split <;> omega) | go_num, by omega, by omega, HO2, HB2, .inr ⟨by simp, HRL.out (by simp), by simp <;> omega, by simp <;> omega, by omega, by omega, HUP.out.2⟩⟩
                        case measure => simp [intOf]; omega
                  · skip
                    by_cases hc : cls = 0
                    · have htt : (tag == 0) = false := by simp; omega
                      subst hc
                      go_wp2_with (first
                              | (with_reducible refine at_span ?_; refine wpList_span _ rfl _ _ _ 22 rfl .u8 5 1 Try.underlying22 Try.infoU8 (.slice a len cap) xs rfl (HS.out.below hbl.out) .i64 .i64 (p : Int) (e : Int) rfl rfl (by omega) (by omega) (by have := HLE.out; omega) ?_; rw [Int.toNat_natCast, Int.toNat_natCast, ← HY.out]; intro v3 hv3; have HV3 := hid hv3; clear hv3)
                              | (go_at_call 17; refine (refRead' _ ys _ HV3.out hyu HR.out).mono ?_; rintro x w1 ⟨rfl, hb1⟩; have HB1 := hid (hbl.out.trans (hb1.mono hbl.out.size)); have hz1 := HB1.out.size; have HO1 := hid (hown2.out.below hb1); have HX1 := hid (Box.made w1 35 [.int .i64 0, .int .i64 tag, .bool true, .int .i64 (l : Int), .int .i64 (sz : Int)]); clear hb1)
                              | (go_at_call 25; refine (refRight ⟨0, tag, true, (l : Int), (sz : Int)⟩ _).mono ?_; rw [hr]; rintro x w2 ⟨rfl, hb2⟩; have HX2 := hid (HX1.out.below hb2 (by simp)); have HB2 := hid ((HB1.out.alloc hz1 _).trans (hb2.mono (by simp; omega))); have HO2 := hid ((HO1.out.alloc (.cells #[.int .i64 0, .int .i64 tag, .bool true, .int .i64 (l : Int), .int .i64 (sz : Int)] 35)).below hb2); have hz2 := HB2.out.size; obtain ⟨k0, k1, k2, k3, k4⟩ := HX2.out.five; obtain ⟨f0, f1, f2, f3, f4⟩ := HX2.out.ice5; have hlt2 := HX2.out.lt; clear hb2)
                              | (at_builtin; refine wpList_app _ rfl _ _ 52 rfl .i64 w.heap.size 3 8 Try.underlying52 Try.infoInt (.slice (some ⟨g, 0, none⟩) (st3.length + 1) c5) (stk (e :: st3)) [(p : Int) + (sz : Int) + (l : Int)] rfl (HO2.out.alloc _) _ rfl (one_sl rfl) (by rw [stk_len]; unfold maxLen; simp <;> omega) (by rw [stk_len]; simp <;> omega) (by simp <;> omega) ?_; intro v6 w6 ho6 hg6 hb6 hn6; have HO6 := hid ho6; have HB6 := hid ((HB2.out.alloc hz2 (.cells #[.int .i64 ((p : Int) + (sz : Int) + (l : Int))] 3)).trans hb6); have HX6 := hid ((HX2.out.alloc _).grown (HO2.out.alloc _) hg6 (by decide)); obtain ⟨k0, k1, k2, k3, k4⟩ := HX6.out.five; obtain ⟨f0, f1, f2, f3, f4⟩ := HX6.out.ice5; have hlt6 := HX6.out.lt; clear ho6 hb6 hg6 hn6))
                      all_goals
                        go_roundw
                        case rel => exact ⟨(p + (sz + l)) :: (e :: st3), p + sz, max dp (st3.length + 2), by go_num, by first | rfl | (congr 1; omega) | (congr 1; split <;> omega) | go_num, by omega, by omega, (by have := HO6.out; show Own _ _ _ _ _ _; rw [stk_push]; have e1 : (((p + (sz + l) : Nat) : Int)) = (p : Int) + (sz : Int) + (l : Int) := (by omega); rw [e1]; exact this), HB6, .inr ⟨by simp, HRI.out (by simp), by simp <;> omega, by simp <;> omega, by omega, by omega, ⟨by omega, HUP.out.2⟩⟩⟩
                        case measure => simp [intOf]; omega
                    · have hcc : (cls == 0) = false := by simp [hc]
                      go_wp2_with (first
                              | (with_reducible refine at_span ?_; refine wpList_span _ rfl _ _ _ 22 rfl .u8 5 1 Try.underlying22 Try.infoU8 (.slice a len cap) xs rfl (HS.out.below hbl.out) .i64 .i64 (p : Int) (e : Int) rfl rfl (by omega) (by omega) (by have := HLE.out; omega) ?_; rw [Int.toNat_natCast, Int.toNat_natCast, ← HY.out]; intro v3 hv3; have HV3 := hid hv3; clear hv3)
                              | (go_at_call 17; refine (refRead' _ ys _ HV3.out hyu HR.out).mono ?_; rintro x w1 ⟨rfl, hb1⟩; have HB1 := hid (hbl.out.trans (hb1.mono hbl.out.size)); have hz1 := HB1.out.size; have HO1 := hid (hown2.out.below hb1); have HX1 := hid (Box.made w1 35 [.int .i64 cls, .int .i64 tag, .bool true, .int .i64 (l : Int), .int .i64 (sz : Int)]); clear hb1)
                              | (go_at_call 25; refine (refRight ⟨cls, tag, true, (l : Int), (sz : Int)⟩ _).mono ?_; rw [hr]; rintro x w2 ⟨rfl, hb2⟩; have HX2 := hid (HX1.out.below hb2 (by simp)); have HB2 := hid ((HB1.out.alloc hz1 _).trans (hb2.mono (by simp; omega))); have HO2 := hid ((HO1.out.alloc (.cells #[.int .i64 cls, .int .i64 tag, .bool true, .int .i64 (l : Int), .int .i64 (sz : Int)] 35)).below hb2); have hz2 := HB2.out.size; obtain ⟨k0, k1, k2, k3, k4⟩ := HX2.out.five; obtain ⟨f0, f1, f2, f3, f4⟩ := HX2.out.ice5; have hlt2 := HX2.out.lt; clear hb2)
                              | (at_builtin; refine wpList_app _ rfl _ _ 52 rfl .i64 w.heap.size 3 8 Try.underlying52 Try.infoInt (.slice (some ⟨g, 0, none⟩) (st3.length + 1) c5) (stk (e :: st3)) [(p : Int) + (sz : Int) + (l : Int)] rfl (HO2.out.alloc _) _ rfl (one_sl rfl) (by rw [stk_len]; unfold maxLen; simp <;> omega) (by rw [stk_len]; simp <;> omega) (by simp <;> omega) ?_; intro v6 w6 ho6 hg6 hb6 hn6; have HO6 := hid ho6; have HB6 := hid ((HB2.out.alloc hz2 (.cells #[.int .i64 ((p : Int) + (sz : Int) + (l : Int))] 3)).trans hb6); have HX6 := hid ((HX2.out.alloc _).grown (HO2.out.alloc _) hg6 (by decide)); obtain ⟨k0, k1, k2, k3, k4⟩ := HX6.out.five; obtain ⟨f0, f1, f2, f3, f4⟩ := HX6.out.ice5; have hlt6 := HX6.out.lt; clear ho6 hb6 hg6 hn6))
                      all_goals
                        go_roundw
                        case rel => exact ⟨(p + (sz + l)) :: (e :: st3), p + sz, max dp (st3.length + 2), by go_num, by first | rfl | (congr 1; omega) | (congr 1; split <;> omega) | go_num, by omega, by omega, (by have := HO6.out; show Own _ _ _ _ _ _; rw [stk_push]; have e1 : (((p + (sz + l) : Nat) : Int)) = (p : Int) + (sz : Int) + (l : Int) := (by omega); rw [e1]; exact this), HB6, .inr ⟨by simp, HRI.out (by simp), by simp <;> omega, by simp <;> omega, by omega, by omega, ⟨by omega, HUP.out.2⟩⟩⟩
                        case measure => simp [intOf]; omega
              · have hr : rightS ⟨cls, tag, cons, (l : Int), (sz : Int)⟩ = false := by simpa using hr
                rw [if_pos hr] at hoo
                have hw := hRB (by rw [hoo]; decide)
                rw [hoo] at hw
                have HW := hid hw
                clear hoo hw hRB hRL hRI hend
                by_cases hc : cls = 0
                · have htt : (tag == 0) = false := by simp; omega
                  subst hc
                  go_wp2_with (first
                          | (with_reducible refine at_span ?_; refine wpList_span _ rfl _ _ _ 22 rfl .u8 5 1 Try.underlying22 Try.infoU8 (.slice a len cap) xs rfl (HS.out.below hbl.out) .i64 .i64 (p : Int) (e : Int) rfl rfl (by omega) (by omega) (by have := HLE.out; omega) ?_; rw [Int.toNat_natCast, Int.toNat_natCast, ← HY.out]; intro v3 hv3; have HV3 := hid hv3; clear hv3)
                          | (go_at_call 17; refine (refRead' _ ys _ HV3.out hyu HR.out).mono ?_; rintro x w1 ⟨rfl, hb1⟩; have HB1 := hid (hbl.out.trans (hb1.mono hbl.out.size)); have hz1 := HB1.out.size; have HO1 := hid (hown2.out.below hb1); have HX1 := hid (Box.made w1 35 [.int .i64 0, .int .i64 tag, .bool cons, .int .i64 (l : Int), .int .i64 (sz : Int)]); clear hb1)
                          | (go_at_call 25; refine (refRight ⟨0, tag, cons, (l : Int), (sz : Int)⟩ _).mono ?_; rw [hr]; rintro x w2 ⟨rfl, hb2⟩; have HX2 := hid (HX1.out.below hb2 (by simp)); have HB2 := hid ((HB1.out.alloc hz1 _).trans (hb2.mono (by simp; omega))); have HO2 := hid ((HO1.out.alloc (.cells #[.int .i64 0, .int .i64 tag, .bool cons, .int .i64 (l : Int), .int .i64 (sz : Int)] 35)).below hb2); have hz2 := HB2.out.size; obtain ⟨k0, k1, k2, k3, k4⟩ := HX2.out.five; obtain ⟨f0, f1, f2, f3, f4⟩ := HX2.out.ice5; have hlt2 := HX2.out.lt; clear hb2))
                  go_ret3
                  rw [HW.out]
                  exact ⟨rfl, HB2.out⟩
                · have hcc : (cls == 0) = false := by simp [hc]
                  go_wp2_with (first
                          | (with_reducible refine at_span ?_; refine wpList_span _ rfl _ _ _ 22 rfl .u8 5 1 Try.underlying22 Try.infoU8 (.slice a len cap) xs rfl (HS.out.below hbl.out) .i64 .i64 (p : Int) (e : Int) rfl rfl (by omega) (by omega) (by have := HLE.out; omega) ?_; rw [Int.toNat_natCast, Int.toNat_natCast, ← HY.out]; intro v3 hv3; have HV3 := hid hv3; clear hv3)
                          | (go_at_call 17; refine (refRead' _ ys _ HV3.out hyu HR.out).mono ?_; rintro x w1 ⟨rfl, hb1⟩; have HB1 := hid (hbl.out.trans (hb1.mono hbl.out.size)); have hz1 := HB1.out.size; have HO1 := hid (hown2.out.below hb1); have HX1 := hid (Box.made w1 35 [.int .i64 cls, .int .i64 tag, .bool cons, .int .i64 (l : Int), .int .i64 (sz : Int)]); clear hb1)
                          | (go_at_call 25; refine (refRight ⟨cls, tag, cons, (l : Int), (sz : Int)⟩ _).mono ?_; rw [hr]; rintro x w2 ⟨rfl, hb2⟩; have HX2 := hid (HX1.out.below hb2 (by simp)); have HB2 := hid ((HB1.out.alloc hz1 _).trans (hb2.mono (by simp; omega))); have HO2 := hid ((HO1.out.alloc (.cells #[.int .i64 cls, .int .i64 tag, .bool cons, .int .i64 (l : Int), .int .i64 (sz : Int)] 35)).below hb2); have hz2 := HB2.out.size; obtain ⟨k0, k1, k2, k3, k4⟩ := HX2.out.five; obtain ⟨f0, f1, f2, f3, f4⟩ := HX2.out.ice5; have hlt2 := HX2.out.lt; clear hb2))
                  go_ret3
                  rw [HW.out]
                  exact ⟨rfl, HB2.out⟩
          · rw [if_pos hE] at hoo
            have hw := hRB (by rw [hoo]; exact hE)
            rw [hoo] at hw
            have HW := hid hw
            have hE1 : (E != 0) = true := by simp [hE]
            clear hoo hw hRB hRL hRI hend hE hbd
            go_wp2_with (first
                    | (with_reducible refine at_span ?_; refine wpList_span _ rfl _ _ _ 22 rfl .u8 5 1 Try.underlying22 Try.infoU8 (.slice a len cap) xs rfl (HS.out.below hbl.out) .i64 .i64 (p : Int) (e : Int) rfl rfl (by omega) (by omega) (by have := HLE.out; omega) ?_; rw [Int.toNat_natCast, Int.toNat_natCast, ← HY.out]; intro v3 hv3; have HV3 := hid hv3; clear hv3)
                    | (go_at_call 17; refine (refRead' _ ys _ HV3.out hyu HR.out).mono ?_; rintro x w1 ⟨rfl, hb1⟩; have HB1 := hid (hbl.out.trans (hb1.mono hbl.out.size)); have hz1 := HB1.out.size; have HO1 := hid (hown2.out.below hb1); have HX1 := hid (Box.made w1 35 [.int .i64 cls, .int .i64 tag, .bool cons, .int .i64 ln, .int .i64 size]); clear hb1))
            go_ret3
            rw [HW.out]
            exact ⟨rfl, HB1.out.alloc hz1 _⟩

end Go.Proofs.Ytgjjncoelbhpeaa
