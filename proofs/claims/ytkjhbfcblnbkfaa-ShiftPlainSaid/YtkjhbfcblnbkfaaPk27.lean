/- Several texts in one: LawSets17. -/
import Derived.Test.YtkjhbfcblnbkfaaPk17
import Derived.Test.YtkjhbfcblnbkfaaPk22
import Derived.Test.YtkjhbfcblnbkfaaPk12
import Derived.Test.YtkjhbfcblnbkfaaPk9
import Derived.Test.YtkjhbfcblnbkfaaPk25
import Derived.Test.YtkjhbfcblnbkfaaPk18
import Derived.Deep.RegionHeld3
import Derived.Test.YtkjhbfcblnbkfaaPk26
import Derived.Deep.CutRange
import Derived.Deep.CutBlock
/-! LawSets17 -/
namespace Go.Proofs.Ytkjhbfcblnbkfaa
open Go.RowKit

theorem box_2nd {w : World} {t : TypeId} {cs : List Value} (o : Obj) : Box t cs (w.heap.size + 1) ((w.alloc o).alloc (.cells cs.toArray t)) := by
  have := Box.made (w.alloc o) t cs
  rwa [World.size_alloc] at this
theorem apt_new {k : IntKind} {e base n c : Nat} {w : World} {v : Value} {xs : List Int} (h : Own k e base w v xs) : Apt (.slice (some ⟨w.heap.size, 0, none⟩) n c) v := fun b hb hb2 => by
  have h1 := h.lt' b hb2
  have h2 : w.heap.size = b := by simpa [Value.ownBlock] using hb
  omega
theorem Own.count {k : IntKind} {e base n c : Nat} {a : Addr} {w : World} {xs : List Int} (h : Own k e base w (.slice (some a) n c) xs) : n = xs.length := by
  obtain ⟨a', c', hv, -⟩ := h.sl
  injection hv
theorem put_mid {PL : List Int} {q : Int} {k : Nat} (h : k < PL.length) (ha : ∀ x ∈ PL, x = q) : ((PL.take k).map (fun x => x + 128) ++ PL.drop k).getD k 0 = q ∧ ((PL.take k).map (fun x => x + 128) ++ PL.drop k).set k (q + 128) = (PL.take (k + 1)).map (fun x => x + 128) ++ PL.drop (k + 1) := by
  have hl : ((PL.take k).map (fun x => x + 128)).length = k := by simp; omega
  have hq : PL[k] = q := ha _ (List.getElem_mem h)
  have hd : PL.drop k = q :: PL.drop (k + 1) := by rw [List.drop_eq_getElem_cons h, hq]
  constructor
  · rw [List.getD_eq_getElem?_getD, List.getElem?_append_right (by omega), hl, Nat.sub_self, hd]
    rfl
  · rw [List.set_append_right _ _ (by omega), hl, Nat.sub_self, hd, List.set_cons_zero, List.take_succ_eq_append_getElem h, hq, List.map_append]
    simp
theorem Box.far_row {k : IntKind} {e base B b n c : Nat} {w : World} {xs : List Int} {t : TypeId} {cs : List Value} (hb : Box t cs B w) (h : Own k e base w (.slice (some ⟨b, 0, none⟩) n c) xs) (ht : t ≠ e) : B ≠ b := fun e1 => h.other hb ht (by rw [e1]; rfl)
theorem Own.far_set {k : IntKind} {e base b B n c m d : Nat} {w : World} {xs : List Int} (h : Own k e base w (.slice (some ⟨b, 0, none⟩) n c) xs) (ha : Apt (.slice (some ⟨b, 0, none⟩) n c) (.slice (some ⟨B, 0, none⟩) m d)) (j : Nat) (v : Value) : Own k e base (w.setCell ⟨B, j, none⟩ v) (.slice (some ⟨b, 0, none⟩) n c) xs := by
  refine World.ownsRow.kept h (grow_set1 (a := w) ⟨rfl, rfl, rfl, Nat.le_refl _, fun _ _ _ => rfl⟩ j v) (.inr fun e => ?_)
  exact ha b rfl (by simpa [Value.ownBlock] using e.symm)
theorem eql_tk (a b : Int) (w : World) : (binOp .eql 30 (.agg #[.int .i64 a, .int .i64 b]) (.agg #[.int .i64 a, .int .i64 b])).run Try.prog w = .ok (.bool true) w := by
  have u3 := Try.underlying3
  have a3 := Try.isAgg3
  have z3 := Try.sizeOf3
  have hS : Try.prog.underlying 30 = some (.struct (Try.prog.fieldsOf 30)) := by kernel_rfl
  have hp : Try.prog.stoodInHeld 30 = false := by kernel_rfl
  rw [run_eql_struct, show (10000 : Nat) = 9999 + 1 from rfl, run_equalIn_agg w 9999 30 _ _ hS hp]
  simp only [Program.fieldsOf, Try.underlying30]
  go_simp
/-- a set, drawn -/
theorem set_drawn {K : Nat} (h : K < 7) : (tabSets ++ [103]).getD K 0 ∈ tabSets ++ [103] ∧ inI ((tabSets ++ [103]).getD K 0) = true := by
  have : ∀ k : Fin 7, (tabSets ++ [103]).getD k 0 ∈ tabSets ++ [103] ∧ inI ((tabSets ++ [103]).getD k 0) = true := by decide
  exact this ⟨K, h⟩
theorem Own.got {e base : Nat} {w : World} {v : Value} {xs : List Int} (h : Own .i64 e base w v xs) {k : Nat} (hk : k < xs.length) : ∃ b c, v = .slice (some ⟨b, 0, none⟩) xs.length c ∧ w.cell? ⟨b, k, none⟩ = some (.int .i64 (xs.getD k 0)) := by
  rcases h.2 with ⟨rfl, h0⟩ | ⟨b, cap, cur, rfl, -⟩
  · omega
  · obtain ⟨a', c', hv, hl, -, hh⟩ := h.sl
    injection hv with e1 e2 e3
    subst e1 e3
    rcases hh with hh | ⟨b', o', hb, -, hc⟩
    · omega
    · injection hb with hb
      injection hb with hb1 hb2
      subst hb1 hb2
      exact ⟨b, _, rfl, by simpa using hc k hk⟩

/-- an element of a row of the call's own is written over -/
theorem Own.put {k : IntKind} {e base g n cap : Nat} {w : World} {xs : List Int} (h : Own k e base w (.slice (some ⟨g, 0, none⟩) n cap) xs) {j : Nat} (hj : j < xs.length) (y : Int) :
    Own k e base (w.setCell ⟨g, j, none⟩ (.int k y)) (.slice (some ⟨g, 0, none⟩) n cap) (xs.set j y) ∧ w.cell? ⟨g, j, none⟩ = some (.int k (xs.getD j 0)) ∧ w.frozen? ⟨g, j, none⟩ = false ∧ base ≤ g ∧ n = xs.length := by
  obtain ⟨h1, h2⟩ := h
  rcases h2 with ⟨h2, _⟩ | ⟨g', cap', cur, hv, hb, hg, hn, hm, hs, ht⟩
  · cases h2
  · cases hv
    have hbx : Box e cur.toList g w := by unfold Box; rw [hg]
    have hlen : cur.toList.length = cap * 1 := by rw [Array.length_toList]; exact hs
    have hj2 : j < cur.toList.length := by omega
    have hcell : cur.toList[j]? = some (.int k (xs.getD j 0)) := by
      have e1 : (cur.toList.take (xs.length * 1))[j]? = cur.toList[j]? := by rw [List.getElem?_take, if_pos (by omega)]
      rw [← e1, ht, List.getElem?_map, List.getElem?_eq_getElem hj, List.getD_eq_getElem?_getD, List.getElem?_eq_getElem hj]
      rfl
    refine ⟨⟨by simp, .inr ⟨g, cap, (cur.toList.set j (.int k y)).toArray, by rw [List.length_set], hb, hbx.set j (.int k y), by rw [List.length_set]; exact hn, hm, by simpa using hs, ?_⟩⟩, (hbx.cell j).trans hcell, hbx.ice j, hb, rfl⟩
    rw [List.length_set, List.map_set, ← ht, List.take_set]

set_option maxRecDepth 10000 in
set_option maxHeartbeats 4000000 in
theorem walkSets17 (HT : ShTokOk) (HE : ShEscOk) (HC : CWideOk) (which g p : Int) (right : Bool) (w : World) :
    Calls Try.prog 3 #[.int .i64 which, .int .i64 g, .int .i64 p, .bool right] w fun e w' => e = .returned (.bool true) ∧ Below w.heap.size w w' := by
  have HW := hid (fun w => lawWakes17 HT HE w)
  obtain ⟨K, hK, hK0⟩ := ixn which 7 (by decide) (by decide)
  obtain ⟨G, hG, hG0⟩ := ixn g 4 (by decide) (by decide)
  obtain ⟨P, hP, hP0⟩ := ixn p 94 (by decide) (by decide)
  obtain ⟨hset, hsi⟩ := set_drawn (show K < 7 by omega)
  obtain ⟨hf0, hf1, hf2⟩ := fin_of hset
  have hesc : escE (G : Int) ((tabSets ++ [103]).getD K 0) = 0 := by
    unfold escE
    rw [if_pos (by omega), if_neg (by omega)]
  have hescl : escL (G : Int) ((tabSets ++ [103]).getD K 0) = escP (G : Int) ((tabSets ++ [103]).getD K 0) := by unfold escL; rw [if_pos hesc]
  have G1 := hid (fun w => HE (G : Int) ((tabSets ++ [103]).getD K 0) w (decide_eq_true ⟨by omega, by omega⟩) hsi)
  rw [hesc, hescl] at G1
  have G2 := hid (fun w => HC ((tabSets ++ [103]).getD K 0) w)
  have hall := List.all_eq_true.1 sets_ok K (List.mem_range.2 (by omega))
  have hall := List.all_eq_true.1 hall G (List.mem_range.2 (by omega))
  have hall := List.all_eq_true.1 hall P (List.mem_range.2 (by omega))
  have htok : tokS (escP (G : Int) ((tabSets ++ [103]).getD K 0) ++ shP right G ++ chP right G ((tabSets ++ [103]).getD K 0) (33 + (P : Int))) = .inl [((tabSets ++ [103]).getD K 0, if (tabSets ++ [103]).getD K 0 = 87 then 257 * (33 + (P : Int)) else 33 + (P : Int))] := by
    simp only [Bool.and_eq_true] at hall
    cases right with
    | true => have := hall.1; unfold setsOk at this; simpa using this
    | false => have := hall.2; unfold setsOk at this; simpa using this
  have HTOK := hid htok
  have HK7 := hid (show K < (tabSets ++ [103]).length from by show K < 7; omega)
  have hcell := hid (fun (v : Value) (w' : World) (h : Own .i64 3 w.heap.size w' v (tabSets ++ [103])) => h.got HK7.out)
  have hq : IntKind.u8.wrap (33 + (P : Int)) = 33 + (P : Int) := by simp only [IntKind.wrap, IntKind.bits, IntKind.signed]; simp; omega
  have HU := hid (show U8 (escP (G : Int) ((tabSets ++ [103]).getD K 0)) from esc_u8 (by omega) (by omega) hset)
  have hl7 : (tabSets ++ [103]).length = 7 := rfl
  rw [hl7] at hcell
  generalize (tabSets ++ [103]).getD K 0 = set at *
  have HTH := hid HT
  clear hset hsi hf0 hf1 hf2 hesc hescl hall htok HT HE HC
  go_enter Try.func3, Try.ntmps3
  have hm257 : IntKind.i64.wrap (257 * (33 + (P : Int))) = 257 * (33 + (P : Int)) := by simp only [IntKind.wrap, IntKind.bits, IntKind.signed]; simp; omega
  obtain ⟨E, hE⟩ : ∃ E, E = escP (G : Int) set := ⟨_, rfl⟩
  have HE4 := hid (show E.length ≤ 4 from by rw [hE]; exact esc_len _ _)
  rw [← hE] at G1 HTOK HU
  clear hE
  go_upto_if 56 with (first
    | (have _u := HB3; clear _u; go_at_call 8; with_reducible refine (G2.out _).mono ?_; rintro e w4 ⟨rfl, hb4⟩; have HA := hid (show Below w3.heap.size w3 ((w3.alloc (.cells #[.int .u8 (33 + (P : Int))] 5)).alloc (.cells #[.int .i64 set, .int .i64 (33 + (P : Int))] 30)) from by (repeat (first | exact Below.refl _ _ | exact below_drewN _ | refine Below.drew ?_ | refine Below.alloc ?_ (by simp) _ | refine Below.setCell ?_ (by simp) _ | refine below_drewN' ?_ _))); have HO4 := hid ((HO3.out.below HA.out).below hb4); have HP4 := hid (((lit_own (k := .u8) (base := w.heap.size) (e := 5) (xs := [33 + (P : Int)]) (n := w3.heap.size) (len := 1) (cs := #[.int .u8 (33 + (P : Int))]) rfl HB3.out.size rfl rfl (by simp)).alloc (.cells #[.int .i64 set, .int .i64 (33 + (P : Int))] 30)).below hb4); have HX4 := hid ((box_2nd (w := w3) (t := 30) (cs := [.int .i64 set, .int .i64 (33 + (P : Int))]) (.cells #[.int .u8 (33 + (P : Int))] 5)).below hb4 (by simp)); have HAP : Hid (Apt (.slice (some ⟨w3.heap.size, 0, none⟩) 1 1) v3) := hid (apt_new HO3.out); have HB4 := hid ((HB3.out.trans (HA.out.mono HB3.out.size)).trans (hb4.mono (Nat.le_trans HB3.out.size HA.out.size))); clear hb4)
    | (have _u := HB2; clear _u; go_at_call 7; with_reducible refine (G1.out _).mono ?_; rintro e w3 ⟨v3, rfl, ho3, hb3⟩; have HB3 := hid (HB2.out.trans (hb3.mono HB2.out.size)); have HO3 := hid (ho3.mono HB2.out.size); clear hb3 ho3)
    | (have _u := HB1; clear _u; at_builtin; go_loud (refine wpList_app _ rfl _ _ 22 rfl .i64 w.heap.size 3 8 Try.underlying22 Try.infoI64 _ tabSets [103] rfl (HO1.out.alloc _) _ rfl (lit_sl (by first | simp | rfl) rfl rfl (by simp)) (by decide) (by decide) (by have := HB1.out.size; simp; omega) ?_); intro v2 w2 ho2 hg2 hb2 hn2; obtain ⟨b2, c2, rfl, y2⟩ := hcell.out v2 w2 ho2; have HB2 : Hid (Below w.heap.size w w2) := hid ((HB1.out.alloc HB1.out.size _).trans hb2); clear hg2 hb2 hn2 ho2)
    | (go_at_call 6; refine (apiSets _).mono ?_; rintro e w1 ⟨v1, rfl, ho1, hb1⟩; have HO1 := hid ho1; have HB1 := hid hb1; clear ho1 hb1))
  have hsz4 := HB4.out.size
  go_cut [13] from 56 to 64 (fun pv wx => ∃ bp np cp : Nat, pv = .slice (some ⟨bp, 0, none⟩) np cp ∧ Hid (Own .u8 5 w.heap.size wx (.slice (some ⟨bp, 0, none⟩) np cp) (if set = 87 then [33 + (P : Int), 33 + (P : Int)] else [33 + (P : Int)])) ∧ Hid (Own .u8 5 w.heap.size wx v3 E) ∧ Hid (Apt (.slice (some ⟨bp, 0, none⟩) np cp) v3) ∧ Hid (Box 30 [.int .i64 set, .int .i64 (if set = 87 then 257 * (33 + (P : Int)) else 33 + (P : Int))] (w3.heap.size + 1) wx) ∧ Hid (Below w.heap.size w wx))
  case first =>
    by_cases h87 : set = 87
    · have e87 : (set == 87) = true := by simpa using h87
      have HI1 := hid (show (if set = 87 then [33 + (P : Int), 33 + (P : Int)] else [33 + (P : Int)]) = [33 + (P : Int)] ++ [33 + (P : Int)] from by rw [if_pos h87]; rfl)
      have HI2 := hid (show (if set = 87 then 257 * (33 + (P : Int)) else 33 + (P : Int)) = 257 * (33 + (P : Int)) from if_pos h87)
      clear h87
      go_wp2_with (at_builtin; go_loud (refine wpList_appI _ rfl _ _ 25 rfl .u8 w.heap.size 5 1 Try.underlying25 Try.infoU8 _ [33 + (P : Int)] [33 + (P : Int)] rfl (HP4.out.alloc _) _ rfl (lit_sl (by first | simp | rfl) rfl rfl (by simp)) (by simp) (by simp [maxLen]) (by simp) (by simp; omega) ?_); intro g5 c5 w5 ho5 hg5 hb5 hx5; obtain ⟨hz1, hz2⟩ := hx5 v3 _ (HO4.out.alloc _) HAP.out; have HO5 := hid ho5; have HZ5 := hid hz1; have HA5 := hid hz2; have HX5 := hid ((HX4.out.alloc (.cells #[.int .u8 (33 + (P : Int))] 5)).grown (HP4.out.alloc _) hg5 (by decide)); have HB5 := hid ((HB4.out.alloc HB4.out.size (.cells #[.int .u8 (33 + (P : Int))] 5)).trans hb5); have x5 := HX5.out.cell 1; have z5 := HX5.out.ice 1; simp only [List.getElem?_cons_zero, List.getElem?_cons_succ] at x5; clear hz1 hz2 ho5 hg5 hb5 hx5)
      go_meet
      case rel =>
        have hX := HX5.out.set 1 (.int .i64 (257 * (33 + (P : Int))))
        have hd : 30 ≠ 5 := by decide
        refine ⟨g5, _, c5, rfl, ?_, HZ5.out.set HX5.out hd 1 _, HA5.out, ?_, HB5.out.setCell (show w.heap.size ≤ w3.heap.size + 1 from by have := HB3.out.size; omega) _⟩
        · rw [HI1.out]; exact HO5.out.set HX5.out hd 1 _
        · rw [HI2.out]; exact hX
    · have e87 : (set == 87) = false := by simpa using h87
      have HI1 := hid (show (if set = 87 then [33 + (P : Int), 33 + (P : Int)] else [33 + (P : Int)]) = [33 + (P : Int)] from if_neg h87)
      have HI2 := hid (show (if set = 87 then 257 * (33 + (P : Int)) else 33 + (P : Int)) = 33 + (P : Int) from if_neg h87)
      clear h87
      go_wp2_with (fail)
      go_meet
      case rel =>
        refine ⟨w3.heap.size, 1, 1, rfl, ?_, HO4.out, HAP.out, ?_, HB4.out⟩
        · rw [HI1.out]; exact HP4.out
        · rw [HI2.out]; exact HX4.out
  case rest =>
    obtain ⟨bp, np, cp, rfl, hpl, hbl, hap, hbx, hbe⟩ := hcut
    have hpz := HE4.out
    obtain ⟨PL, hPL⟩ : ∃ PL, PL = (if set = 87 then [33 + (P : Int), 33 + (P : Int)] else [33 + (P : Int)]) := ⟨_, rfl⟩
    have HPL := hid (show PL.length ≤ 2 ∧ ∀ x ∈ PL, x = 33 + (P : Int) from by rw [hPL]; split <;> simp)
    have HCH := hid (show chP right G set (33 + (P : Int)) = PL.map (fun x => if right = true ∧ 0 < G then x + 128 else x) from by unfold chP; rw [hPL])
    rw [← hPL] at hpl
    rw [HCH.out] at HTOK
    generalize (if set = 87 then 257 * (33 + (P : Int)) else 33 + (P : Int)) = WP at hbx HTOK
    clear hPL HCH hpz
    go_upto_block 0 with (fail)
    go_cut [11, 13, 15] from 65 to 108 (fun bv pv iv wx => Hid (Own .u8 5 w.heap.size wx bv (E ++ shP right G)) ∧ Hid (Sl .u8 wx pv (PL.map (fun x => if right = true ∧ 0 < G then x + 128 else x))) ∧ Hid (Box 30 [.int .i64 set, .int .i64 WP] (w3.heap.size + 1) wx) ∧ Hid (Below w.heap.size w wx))
    case first =>
      by_cases hR : right = true ∧ 0 < G
      · obtain ⟨rfl, hG1⟩ := hR
        have HSH := hid (show E ++ shP true G = E ++ [27, 127 - (G : Int)] from by unfold shP; rw [if_pos ⟨rfl, hG1⟩])
        have HM := hid (show PL.map (fun x => if true = true ∧ 0 < G then x + 128 else x) = PL.map (fun x => x + 128) from by congr 1; funext x; rw [if_pos ⟨rfl, hG1⟩])
        have e0 : decide (0 < (G : Int)) = true := by simp; omega
        have e0n : decide (0 < G) = true := by simp; omega
        have h127 : IntKind.u8.wrap (127 - (G : Int)) = 127 - (G : Int) := by simp only [IntKind.wrap, IntKind.bits, IntKind.signed]; simp; omega
        have h128 : IntKind.u8.wrap (33 + (P : Int) + 128) = 33 + (P : Int) + 128 := by simp only [IntKind.wrap, IntKind.bits, IntKind.signed]; simp; omega
        have hnp := hpl.out.count
        have HNP := hid hnp
        have hnp2 : np ≤ 2 := by have := HPL.out.1; omega
        clear hG1 hnp
        go_wp2_with (at_builtin; go_loud (refine wpList_appI _ rfl _ _ 25 rfl .u8 w.heap.size 5 1 Try.underlying25 Try.infoU8 _ E [27, 127 - (G : Int)] rfl (hbl.out.alloc _) _ rfl (lit_sl (by first | simp | rfl) rfl rfl (by simp)) (by simp) (by have := HE4.out; simp [maxLen]; omega) (by have := HE4.out; simp; omega) (by have := hbe.out.size; simp; omega) ?_); intro g5 c5 w5 ho5 hg5 hb5 hx5; obtain ⟨hz1, hz2⟩ := hx5 _ _ (hpl.out.alloc _) hap.out.turn; have HO5 := hid ho5; have HZ5 := hid hz1; have HA5 := hid hz2; have HX5 := hid ((hbx.out.alloc (.cells #[.int .u8 27, .int .u8 (127 - (G : Int))] 5)).grown (hbl.out.alloc _) hg5 (by decide)); have HB5 := hid ((hbe.out.alloc hbe.out.size (.cells #[.int .u8 27, .int .u8 (127 - (G : Int))] 5)).trans hb5); clear hz1 hz2 ho5 hg5 hb5 hx5)
        go_loopw [15] (fun iv wr => ∃ k : Nat, k ≤ np ∧ iv = .int .i64 k ∧ Hid (Own .u8 5 w.heap.size wr (.slice (some ⟨bp, 0, none⟩) np cp) ((PL.take k).map (fun x => x + 128) ++ PL.drop k)) ∧ Hid (Own .u8 5 w.heap.size wr (.slice (some ⟨g5, 0, none⟩) (E.length + 2) c5) (E ++ [27, 127 - (G : Int)])) ∧ Hid (Box 30 [.int .i64 set, .int .i64 WP] (w3.heap.size + 1) wr) ∧ Hid (Below w.heap.size w wr)) (fun iv _ => np - (intOf iv).toNat)
        case atStart => exact ⟨0, by omega, rfl, HZ5.out, HO5.out, HX5.out, HB5.out⟩
        case round =>
          obtain ⟨k, hk, rfl, hpk, hbk, hxk, hek⟩ := hrel
          by_cases hlt : k < np
          · have hkl : k < ((PL.take k).map (fun x => x + 128) ++ PL.drop k).length := by have := HNP.out; simp; omega
            obtain ⟨n1, n2, n3, n4, -⟩ := hpk.out.put hkl (33 + (P : Int) + 128)
            have hg0 : ((PL.take k).map (fun x => x + 128) ++ PL.drop k).getD k 0 = 33 + (P : Int) ∧ ((PL.take k).map (fun x => x + 128) ++ PL.drop k).set k (33 + (P : Int) + 128) = (PL.take (k + 1)).map (fun x => x + 128) ++ PL.drop (k + 1) := put_mid (by have := HNP.out; omega) HPL.out.2
            rw [hg0.1] at n2
            rw [hg0.2] at n1
            have HN1 := hid n1
            have HN4 := hid n4
            have hne := hxk.out.far_row hpk.out (by decide)
            have HXN := hid ((Below.heap_setCell wr ⟨bp, k, none⟩ (.int .u8 (33 + (P : Int) + 128)) _ hne).trans hxk.out : Box 30 [.int .i64 set, .int .i64 WP] (w3.heap.size + 1) (wr.setCell ⟨bp, k, none⟩ (.int .u8 (33 + (P : Int) + 128))))
            have HBN := hid (hbk.out.far_set (B := bp) (HA5.out) k (.int .u8 (33 + (P : Int) + 128)))
            clear n1 n4 hg0 hkl hne
            go_wp2_with (fail)
            go_roundw
            case rel => exact ⟨k + 1, by omega, by go_num, HN1.out, HBN.out, HXN.out, hek.out.setCell HN4.out _⟩
            case measure => simp [intOf] <;> omega
          · obtain rfl : k = np := by omega
            go_wp2_with (fail)
            go_meet
            case rel =>
              refine ⟨by rw [HSH.out]; exact hbk.out, ?_, hxk.out, hek.out⟩
              have h := hpk.out.sl
              rw [List.take_of_length_le (by have := HNP.out; omega), List.drop_eq_nil_of_le (by have := HNP.out; omega), List.append_nil] at h
              rw [HM.out]
              exact h
      · have HM := hid (show PL.map (fun x => if right = true ∧ 0 < G then x + 128 else x) = PL from by simp [hR])
        have hb65 : (right && decide (0 < (G : Int))) = false := by
          rw [Bool.eq_false_iff]
          intro h
          simp only [Bool.and_eq_true, decide_eq_true_eq] at h
          exact hR ⟨h.1, by omega⟩
        rcases (show G = 0 ∨ G = 1 ∨ G = 2 ∨ G = 3 by omega) with hg | hg | hg | hg
        · have HSH := hid (show E ++ shP right G = E ++ [] from by unfold shP; rw [if_neg hR]; simp [hg])
          have e1 : ((G : Int) == 1) = false := by simp; omega
          have e2 : ((G : Int) == 2) = false := by simp; omega
          have e3 : ((G : Int) == 3) = false := by simp; omega
          have e0 : decide (0 < (G : Int)) = false := by simp; omega
          have e0n : decide (0 < G) = false := by simp; omega
          clear hg hR
          cases right with
          | true => 
            go_wp2_with (fail)
            go_meet
            case rel => exact ⟨by rw [HSH.out, List.append_nil]; exact hbl.out, by rw [HM.out]; exact hpl.out.sl, hbx.out, hbe.out⟩
          | false =>
            go_wp2_with (fail)
            go_meet
            case rel => exact ⟨by rw [HSH.out, List.append_nil]; exact hbl.out, by rw [HM.out]; exact hpl.out.sl, hbx.out, hbe.out⟩
        · have HSH := hid (show E ++ shP right G = E ++ [14] from by unfold shP; rw [if_neg hR]; simp [hg])
          have e1 : ((G : Int) == 1) = true := by simp; omega
          have e2 : ((G : Int) == 2) = false := by simp; omega
          have e3 : ((G : Int) == 3) = false := by simp; omega
          have hrf : right = false := by cases right <;> simp_all
          clear hg hR
          cases right with
          | true => cases hrf
          | false =>
            go_wp2_with (at_builtin; go_loud (refine wpList_appI _ rfl _ _ 25 rfl .u8 w.heap.size 5 1 Try.underlying25 Try.infoU8 _ E [14] rfl (hbl.out.alloc _) _ rfl (lit_sl (by first | simp | rfl) rfl rfl (by simp)) (by simp) (by have := HE4.out; simp [maxLen]; omega) (by have := HE4.out; simp; omega) (by have := hbe.out.size; simp; omega) ?_); intro g5 c5 w5 ho5 hg5 hb5 hx5; obtain ⟨hz1, hz2⟩ := hx5 _ _ (hpl.out.alloc _) hap.out.turn; have HO5 := hid ho5; have HZ5 := hid hz1; have HA5 := hid hz2; have HX5 := hid ((hbx.out.alloc (.cells #[.int .u8 14] 5)).grown (hbl.out.alloc _) hg5 (by decide)); have HB5 := hid ((hbe.out.alloc hbe.out.size (.cells #[.int .u8 14] 5)).trans hb5); clear hz1 hz2 ho5 hg5 hb5 hx5)
            go_meet
            case rel => exact ⟨by rw [HSH.out]; exact HO5.out, by rw [HM.out]; exact HZ5.out.sl, HX5.out, HB5.out⟩
        · have HSH := hid (show E ++ shP right G = E ++ [25] from by unfold shP; rw [if_neg hR]; simp [hg])
          have e1 : ((G : Int) == 1) = false := by simp; omega
          have e2 : ((G : Int) == 2) = true := by simp; omega
          have e3 : ((G : Int) == 3) = false := by simp; omega
          have hrf : right = false := by cases right <;> simp_all
          clear hg hR
          cases right with
          | true => cases hrf
          | false =>
            go_wp2_with (at_builtin; go_loud (refine wpList_appI _ rfl _ _ 25 rfl .u8 w.heap.size 5 1 Try.underlying25 Try.infoU8 _ E [25] rfl (hbl.out.alloc _) _ rfl (lit_sl (by first | simp | rfl) rfl rfl (by simp)) (by simp) (by have := HE4.out; simp [maxLen]; omega) (by have := HE4.out; simp; omega) (by have := hbe.out.size; simp; omega) ?_); intro g5 c5 w5 ho5 hg5 hb5 hx5; obtain ⟨hz1, hz2⟩ := hx5 _ _ (hpl.out.alloc _) hap.out.turn; have HO5 := hid ho5; have HZ5 := hid hz1; have HA5 := hid hz2; have HX5 := hid ((hbx.out.alloc (.cells #[.int .u8 25] 5)).grown (hbl.out.alloc _) hg5 (by decide)); have HB5 := hid ((hbe.out.alloc hbe.out.size (.cells #[.int .u8 25] 5)).trans hb5); clear hz1 hz2 ho5 hg5 hb5 hx5)
            go_meet
            case rel => exact ⟨by rw [HSH.out]; exact HO5.out, by rw [HM.out]; exact HZ5.out.sl, HX5.out, HB5.out⟩
        · have HSH := hid (show E ++ shP right G = E ++ [29] from by unfold shP; rw [if_neg hR]; simp [hg])
          have e1 : ((G : Int) == 1) = false := by simp; omega
          have e2 : ((G : Int) == 2) = false := by simp; omega
          have e3 : ((G : Int) == 3) = true := by simp; omega
          have hrf : right = false := by cases right <;> simp_all
          clear hg hR
          cases right with
          | true => cases hrf
          | false =>
            go_wp2_with (at_builtin; go_loud (refine wpList_appI _ rfl _ _ 25 rfl .u8 w.heap.size 5 1 Try.underlying25 Try.infoU8 _ E [29] rfl (hbl.out.alloc _) _ rfl (lit_sl (by first | simp | rfl) rfl rfl (by simp)) (by simp) (by have := HE4.out; simp [maxLen]; omega) (by have := HE4.out; simp; omega) (by have := hbe.out.size; simp; omega) ?_); intro g5 c5 w5 ho5 hg5 hb5 hx5; obtain ⟨hz1, hz2⟩ := hx5 _ _ (hpl.out.alloc _) hap.out.turn; have HO5 := hid ho5; have HZ5 := hid hz1; have HA5 := hid hz2; have HX5 := hid ((hbx.out.alloc (.cells #[.int .u8 29] 5)).grown (hbl.out.alloc _) hg5 (by decide)); have HB5 := hid ((hbe.out.alloc hbe.out.size (.cells #[.int .u8 29] 5)).trans hb5); clear hz1 hz2 ho5 hg5 hb5 hx5)
            go_meet
            case rel => exact ⟨by rw [HSH.out]; exact HO5.out, by rw [HM.out]; exact HZ5.out.sl, HX5.out, HB5.out⟩
    case rest =>
      obtain ⟨hbl2, hpl2, hbx2, hbe2⟩ := hcut
      obtain ⟨f, hf⟩ : ∃ f, f = PL.map (fun x => if right = true ∧ 0 < G then x + 128 else x) := ⟨_, rfl⟩
      have hfu : U8 f ∧ f.length ≤ 2 := by
        rw [hf]
        refine ⟨fun y hy => ?_, by rw [List.length_map]; exact HPL.out.1⟩
        obtain ⟨x, hx, rfl⟩ := List.mem_map.1 hy
        have := HPL.out.2 x hx
        split <;> omega
      have hsu : U8 (shP right G) ∧ (shP right G).length ≤ 2 := by
        unfold shP
        constructor
        · intro y hy
          split at hy
          · simp only [List.mem_cons, List.not_mem_nil, or_false] at hy; omega
          · split at hy
            · simp only [List.mem_cons, List.not_mem_nil, or_false] at hy; omega
            · split at hy
              · simp only [List.mem_cons, List.not_mem_nil, or_false] at hy; omega
              · split at hy
                · simp only [List.mem_cons, List.not_mem_nil, or_false] at hy; omega
                · cases hy
        · repeat' split
          all_goals simp
      rw [← hf] at hpl2 HTOK
      have GT := hid (fun v w h => HTH.out v (E ++ shP right G ++ f) w h ((HU.out.append hsu.1).append hfu.1) (by simp only [List.length_append]; have := HE4.out; omega))
      rw [HTOK.out] at GT
      simp only [tkL, tkAt, tkE] at GT
      have HLS := hid (show (E ++ shP right G).length ≤ 6 ∧ f.length ≤ 2 from ⟨by rw [List.length_append]; have := HE4.out; omega, hfu.2⟩)
      generalize E ++ shP right G = A at hbl2 GT HLS
      clear hf hfu hsu HTH hbl hpl hbx hap
      have hq := eql_tk set WP
      have hgd := (by kernel_rfl : Try.prog.eqGuardType Try.prog.depth 30 = false)
      go_upto_region 25 with (first
        | (go_at_call 9; with_reducible refine (GT.out _ _ HO6.out).mono ?_; rintro e w7 ⟨v7, rfl, ht7, hb7⟩; obtain ⟨bl, ol, cl, rfl, q0, q1⟩ := ht7.one; have HX7 := hid (HX6.out.below hb7 HX6.out.lt); have x0 := HX7.out.cell 0; have x1 := HX7.out.cell 1; simp only [List.getElem?_cons_zero, List.getElem?_cons_succ] at x0 x1; have HB7 := hid (HB6.out.trans (hb7.mono HB6.out.size)); clear ht7 hb7)
        | (at_builtin; go_loud (refine wpList_app _ rfl _ _ 25 rfl .u8 w.heap.size 5 1 Try.underlying25 Try.infoU8 _ A f rfl hbl2.out _ rfl hpl2.out (by have := HLS.out; unfold maxLen; omega) (by have := HLS.out; omega) hbe2.out.size ?_); intro v6 w6 ho6 hg6 hb6 hn6; have HO6 := hid ho6.sl; have HX6 := hid (hbx2.out.grown hbl2.out hg6 (by decide)); have HB6 := hid (hbe2.out.trans hb6); clear ho6 hg6 hb6 hn6))
      have HSS := hid (fun (w' : World) (h : Below w7.heap.size w7 w') => (show w'.cell? ⟨bl, ol, none⟩ = some (.int .i64 set) ∧ w'.cell? ⟨bl, ol + 1, none⟩ = some (.int .i64 WP) ∧ w'.cell? ⟨w3.heap.size + 1, 0, none⟩ = some (.int .i64 set) ∧ w'.cell? ⟨w3.heap.size + 1, 1, none⟩ = some (.int .i64 WP) from ⟨(h.cell (World.block_lt_of_cell? w7 _ q0)).trans q0, (h.cell (World.block_lt_of_cell? w7 _ q1)).trans q1, (h.cell (World.block_lt_of_cell? w7 _ x0)).trans x0, (h.cell (World.block_lt_of_cell? w7 _ x1)).trans x1⟩))
      have HBq := hid (Below.refl w7.heap.size w7).drew
      clear q0 q1 x0 x1
      go_region_held3 (fun w' => w'.cell? ⟨bl, ol, none⟩ = some (.int .i64 set) ∧ w'.cell? ⟨bl, ol + 1, none⟩ = some (.int .i64 WP) ∧ w'.cell? ⟨w3.heap.size + 1, 0, none⟩ = some (.int .i64 set) ∧ w'.cell? ⟨w3.heap.size + 1, 1, none⟩ = some (.int .i64 WP))
        (first | exact HSS.out _ HB8.out | exact HSS.out _ HBq.out)
        ((go_simp; go_at_call 10; refine (HW.out _).mono ?_; rintro e w8 ⟨rfl, hb8⟩; have HB8 := hid (HBq.out.trans (hb8.mono HBq.out.size)); clear hb8))
      all_goals go_simp
      all_goals go_wp2_with (fail)
      all_goals go_ret
      all_goals exact ⟨rfl, HB7.out.trans (HB8.out.mono HB7.out.size)⟩
end Go.Proofs.Ytkjhbfcblnbkfaa
