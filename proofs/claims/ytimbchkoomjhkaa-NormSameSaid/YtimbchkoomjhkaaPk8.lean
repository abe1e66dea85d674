/- Several texts in one: ApiCompat, AnyOps. -/
import Derived.Test.YtimbchkoomjhkaaPk4
import Derived.Test.YtimbchkoomjhkaaPk7
import Derived.Test.YtimbchkoomjhkaaPk3
import Derived.Deep.CutRange
import Derived.Test.YtimbchkoomjhkaaPk1
import Derived.Orders
import Derived.StillTail
import Derived.Great.BuildSlice
/-! ApiCompat -/
namespace Go.Proofs.Ytimbchkoomjhkaa
open Go.RowKit
open Go.Great (wp_anyFrame)

def compatHead : List Mp := [⟨160, [32]⟩, ⟨168, [32, 776]⟩, ⟨170, [97]⟩, ⟨175, [32, 772]⟩, ⟨178, [50]⟩, ⟨179, [51]⟩, ⟨180, [32, 769]⟩, ⟨181, [956]⟩, ⟨184, [32, 807]⟩, ⟨185, [49]⟩, ⟨186, [111]⟩, ⟨188, [49, 8260, 52]⟩, ⟨189, [49, 8260, 50]⟩, ⟨190, [51, 8260, 52]⟩, ⟨306, [73, 74]⟩, ⟨307, [105, 106]⟩, ⟨319, [76, 183]⟩, ⟨320, [108, 183]⟩, ⟨329, [700, 110]⟩, ⟨383, [115]⟩, ⟨728, [32, 774]⟩, ⟨729, [32, 775]⟩, ⟨730, [32, 778]⟩, ⟨731, [32, 808]⟩, ⟨733, [32, 779]⟩, ⟨890, [32, 837]⟩, ⟨900, [32, 769]⟩, ⟨901, [168, 769]⟩, ⟨8194, [32]⟩, ⟨8195, [32]⟩, ⟨8209, [8208]⟩, ⟨8228, [46]⟩, ⟨8229, [46, 46]⟩, ⟨8230, [46, 46, 46]⟩, ⟨8304, [48]⟩, ⟨8482, [84, 77]⟩, ⟨8544, [73]⟩, ⟨8545, [73, 73]⟩, ⟨8548, [86]⟩, ⟨8560, [105]⟩, ⟨8561, [105, 105]⟩, ⟨8564, [118]⟩, ⟨12288, [32]⟩, ⟨64256, [102, 102]⟩, ⟨64257, [102, 105]⟩, ⟨64258, [102, 108]⟩, ⟨64259, [102, 102, 105]⟩, ⟨64261, [383, 116]⟩, ⟨64262, [115, 116]⟩, ⟨65438, [12441]⟩, ⟨65439, [12442]⟩, ⟨65398, [12459]⟩]
/-- fullwidth forms, circled digits -/
def compatWide (k : Nat) : List Mp := (List.range k).map fun (i : Nat) => ⟨65281 + (i : Int), [33 + (i : Int)]⟩
def compatRing (k : Nat) : List Mp := (List.range k).map fun (i : Nat) => ⟨9312 + (i : Int), [49 + (i : Int)]⟩
def tabCompat : List Mp := compatHead ++ compatWide 94 ++ compatRing 9
theorem compatWide_next (k : Nat) : compatWide (k + 1) = compatWide k ++ [⟨65281 + (k : Int), [33 + (k : Int)]⟩] := by
  unfold compatWide
  rw [List.range_succ, List.map_append]
  rfl
theorem compatRing_next (k : Nat) : compatRing (k + 1) = compatRing k ++ [⟨9312 + (k : Int), [49 + (k : Int)]⟩] := by
  unfold compatRing
  rw [List.range_succ, List.map_append]
  rfl
theorem compatWide_len (k : Nat) : (compatHead ++ compatWide k).length = 52 + k := by
  unfold compatWide
  rw [List.length_append, List.length_map, List.length_range]
  rfl
theorem compatRing_len (k : Nat) : (compatHead ++ compatWide 94 ++ compatRing k).length = 52 + 94 + k := by
  unfold compatRing
  rw [List.length_append, List.length_map, List.length_range, compatWide_len]
set_option maxHeartbeats 4000000 in
set_option maxRecDepth 100000 in
theorem apiCompat (w : World) : Calls Try.prog 26 #[] w fun e w' => ∃ v, e = .returned v ∧ OwnM 75 w.heap.size w' v tabCompat ∧ Below w.heap.size w w' := by
  obtain ⟨i0, hi0, hz0, hz1, hz2⟩ := info_parts Try.infoMp
  go_enter Try.func26, Try.ntmps26
  go_upto_region 1 with (fail)
  rename_i K1 hK1
  refine wp_anyFrame 135 (by as_aux_lemma => kernel_rfl) rfl fun a1 hs1 hd1 => ?_
  apply wp_region_lit
  refine Go.Great.wpList_splitAt 104 (mpOps 22 75 "tables.go:62" 4 0 compatHead) (by as_aux_lemma => kernel_rfl) ?_
  refine wpList_mps 22 75 "tables.go:62" Try.underlying22 (by as_aux_lemma => kernel_rfl) (by as_aux_lemma => kernel_rfl) (fun _ _ _ => by as_aux_lemma => kernel_rfl) w.heap.size compatHead 4 0 a1 w (by rw [hs1]; exact Nat.le_of_ble_eq_true (by as_aux_lemma => kernel_rfl)) (by decide) (Nat.le_refl _) fun a2 w2 us hs2 hd2 hts hev _ hb2 => ?_
  refine wpList_buildMps rfl 42 75 _ compatHead 52 rfl us rfl 4 w2.heap.size rfl (some 108) rfl w.heap.size hb2.size (by as_aux_lemma => kernel_rfl) (by as_aux_lemma => kernel_rfl) (by as_aux_lemma => kernel_rfl) (by decide) (by decide) (by as_aux_lemma => kernel_rfl) hts hev fun w3 ho3 hb3 => ?_
  refine Go.Great.wpList_readTo rfl (some 1) rfl (.slice (some ⟨w2.heap.size, 0, none⟩) 52 52) ?_ ?_
  · have := Act.eval_put_same a2 108 (.slice (some ⟨w2.heap.size, 0, none⟩) 52 52) (by rw [hs2, hs1]; omega)
    exact congrArg (fun v => Result.ok (Next.value v) _) this
  apply wpList_nil
  refine hK1 _ _ ?_
  clear hK1 K1 hev hts
  have HO := hid ho3
  have HB := hid (hb2.trans (hb3.mono hb2.size))
  have hs4 : ((a2.put (some 108) (.slice (some ⟨w2.heap.size, 0, none⟩) 52 52)).put (some 1) (.slice (some ⟨w2.heap.size, 0, none⟩) 52 52)).tmps.size = 135 := by rw [Act.size_put, Act.size_put, hs2, hs1]
  have hd4 : ((a2.put (some 108) (.slice (some ⟨w2.heap.size, 0, none⟩) 52 52)).put (some 1) (.slice (some ⟨w2.heap.size, 0, none⟩) 52 52)).defers = [] := by rw [Act.defers_put', Act.defers_put', hd2, hd1]
  have he4 := Act.eval_put_same (a2.put (some 108) (.slice (some ⟨w2.heap.size, 0, none⟩) 52 52)) 1 (.slice (some ⟨w2.heap.size, 0, none⟩) 52 52) (by rw [Act.size_put, hs2, hs1]; omega)
  generalize (a2.put (some 108) (.slice (some ⟨w2.heap.size, 0, none⟩) 52 52)).put (some 1) (.slice (some ⟨w2.heap.size, 0, none⟩) 52 52) = a4 at hs4 hd4 he4 ⊢
  clear ho3 hb3 hb2 hs2 hd2 hs1 hd1
  obtain ⟨g, hg⟩ : ∃ g, g = Value.slice (some ⟨w2.heap.size, 0, none⟩) 52 52 := ⟨_, rfl⟩
  rw [← hg] at HO he4
  clear hg
  obtain ⟨f, rfl⟩ := slots135 a4 g hs4 hd4 he4
  clear hs4 hd4 he4
  go_wp2
  go_loopw [1, 2] (fun lv iv wr => ∃ k : Nat, k ≤ 94 ∧ iv = .int .i64 (65281 + (k : Int)) ∧ Hid (OwnM 75 w.heap.size wr lv (compatHead ++ compatWide k)) ∧ Hid (Below w.heap.size w wr)) (fun _ iv _ => 94 - ((intOf iv).toNat - 65281))
  case atStart => exact ⟨0, by omega, rfl, by show OwnM _ _ _ _ (compatHead ++ []); rw [List.append_nil]; exact HO.out, HB.out⟩
  case round =>
    obtain ⟨k, hk, rfl, hown, hbel⟩ := hrel
    obtain ⟨al, cl, hal⟩ := hown.out.form
    rw [compatWide_len] at hal
    subst hal
    have hsz := hbel.out.size
    by_cases hlt : k < 94
    · have e1 : wrap64 (65281 + (k : Int) - 65248) = 33 + (k : Int) := by unfold wrap64; omega
      go_wp2_with (at_builtin; go_loud (refine wpList_appM _ rfl _ _ 42 rfl w.heap.size 75 (by decide) 32 i0 (.agg #[.int .i64 0, .slice none 0 0]) Try.underlying42 hi0 hz0 hz1 hz2 rfl _ _ (52 + k) (compatWide_len k).symm rfl (hown.out.below (by (repeat (first | exact Below.refl _ _ | exact below_drewN _ | refine Below.drew ?_ | refine Below.alloc ?_ (by first | omega | (simp; done) | (simp; omega)) _ | refine Below.setCell ?_ (by first | (simp; done) | (simp; omega)) _ | refine below_drewN' ?_ _)))) (wr.heap.size + 1) ⟨65281 + (k : Int), [65281 + (k : Int) - 65248]⟩ (.slice (some ⟨wr.heap.size, 0, none⟩) 1 1) rfl ⟨laid_two _ _ _ _ 0, laid_two _ _ _ _ 1⟩ (laid_own wr hsz _ _) (by unfold maxLen; omega) (by omega) (by simp; omega) ?_); intro v6 w6 ho6 hg6 hb6; clear hg6)
      go_roundw
      case rel =>
        refine ⟨k + 1, by omega, by go_num, ?_, hbel.out.trans (Below.trans (show Below w.heap.size wr _ from by (repeat (first | exact Below.refl _ _ | exact below_drewN _ | refine Below.drew ?_ | refine Below.alloc ?_ (by first | omega | (simp; done) | (simp; omega)) _ | refine Below.setCell ?_ (by first | (simp; done) | (simp; omega)) _ | refine below_drewN' ?_ _))) hb6)⟩
        show OwnM _ _ _ _ _
        rw [compatWide_next, ← List.append_assoc, show (33 : Int) + (k : Int) = 65281 + (k : Int) - 65248 by omega]
        exact ho6
      case measure => simp [intOf]; omega
    · obtain rfl : k = 94 := by omega
      rw [show (65281 + ((94 : Nat) : Int)) = 65375 from rfl]
      go_wp2
      go_loopw [1, 3] (fun lv iv wr => ∃ k : Nat, k ≤ 9 ∧ iv = .int .i64 (9312 + (k : Int)) ∧ Hid (OwnM 75 w.heap.size wr lv (compatHead ++ compatWide 94 ++ compatRing k)) ∧ Hid (Below w.heap.size w wr)) (fun _ iv _ => 9 - ((intOf iv).toNat - 9312))
      case atStart => exact ⟨0, by omega, rfl, by show OwnM _ _ _ _ (compatHead ++ compatWide 94 ++ []); rw [List.append_nil]; exact hown.out, hbel.out⟩
      case round =>
        clear hown hbel hsz
        obtain ⟨k, hk, rfl, hown, hbel⟩ := hrel
        obtain ⟨al, cl, hal⟩ := hown.out.form
        rw [compatRing_len] at hal
        subst hal
        have hsz := hbel.out.size
        by_cases hlt : k < 9
        · have e1 : wrap64 (9312 + (k : Int) - 9312) = (k : Int) := by unfold wrap64; omega
          have e2 : wrap64 ((k : Int) + 49) = (k : Int) + 49 := by unfold wrap64; omega
          go_wp2_with (at_builtin; go_loud (refine wpList_appM _ rfl _ _ 42 rfl w.heap.size 75 (by decide) 32 i0 (.agg #[.int .i64 0, .slice none 0 0]) Try.underlying42 hi0 hz0 hz1 hz2 rfl _ _ (52 + 94 + k) (compatRing_len k).symm rfl (hown.out.below (by (repeat (first | exact Below.refl _ _ | exact below_drewN _ | refine Below.drew ?_ | refine Below.alloc ?_ (by first | omega | (simp; done) | (simp; omega)) _ | refine Below.setCell ?_ (by first | (simp; done) | (simp; omega)) _ | refine below_drewN' ?_ _)))) (wr.heap.size + 1) ⟨9312 + (k : Int), [9312 + (k : Int) - 9312 + 49]⟩ (.slice (some ⟨wr.heap.size, 0, none⟩) 1 1) rfl ⟨laid_two _ _ _ _ 0, laid_two _ _ _ _ 1⟩ (laid_own wr hsz _ _) (by unfold maxLen; omega) (by omega) (by simp; omega) ?_); intro v6 w6 ho6 hg6 hb6; clear hg6)
          go_roundw
          case rel =>
            refine ⟨k + 1, by omega, by go_num, ?_, hbel.out.trans (Below.trans (show Below w.heap.size wr _ from by (repeat (first | exact Below.refl _ _ | exact below_drewN _ | refine Below.drew ?_ | refine Below.alloc ?_ (by first | omega | (simp; done) | (simp; omega)) _ | refine Below.setCell ?_ (by first | (simp; done) | (simp; omega)) _ | refine below_drewN' ?_ _))) hb6)⟩
            show OwnM _ _ _ _ _
            rw [compatRing_next, ← List.append_assoc, show (49 : Int) + (k : Int) = 9312 + (k : Int) - 9312 + 49 by omega]
            exact ho6
          case measure => simp [intOf]; omega
        · obtain rfl : k = 9 := by omega
          go_wp2
          go_ret
          exact ⟨_, rfl, hown.out, hbel.out⟩
end Go.Proofs.Ytimbchkoomjhkaa

/-! AnyOps -/
namespace Go.Proofs.Ytimbchkoomjhkaa
open Go.RowKit

section
variable {P : Program} {ops : Array Oper} {md : Region.Mode} {Q : Exit → Act → World → Prop} {a : Act} {w w' : World} {fuel : Nat} {listed : Array Bool} {v : Value}
theorem still_at {o : Oper} {rest : List Oper} {Q : Act → Prop} (hg : o.guard = none) (hv : (execOp a.eval o).run P w = .ok (.value v) w) (h : wpStill P ops w Q rest (a.put o.dst v)) : wpStill P ops w Q (o :: rest) a :=
  wpStill_step fun K hK => by
    rw [if_pos (by simp [Region.wanted, hg])]
    unfold Oper.still
    rw [hv]
    exact ⟨rfl, hK _ h⟩
theorem op_at {i : Nat} {o : Oper} {K : Act → World → Prop} (ho : ops[i]? = some o) (hg : o.guard = none) (hv : (execOp a.eval o).run P w = .ok (.value v) w') (h : K (a.put o.dst v) w') : wpOp P ops Q i K a w := by
  unfold wpOp
  simp only [ho]
  rw [if_pos (by simp [Region.wanted, hg])]
  left
  unfold Oper.wp
  rw [hv]
  exact h
/-- one operation alone may come up -/
theorem any_one {i : Nat} {o : Oper} (ho : ops[i]? = some o) (hr : Region.ready md ops listed = [i]) (hg : o.guard = none) (hv : (execOp a.eval o).run P w = .ok (.value v) w')
    (h : wpAny P md ops Q fuel (listed.setIfInBounds i true) (a.put o.dst v) w') : wpAny P md ops Q (fuel + 1) listed a w :=
  wpAny_all hr (by simp) fun j hj => by
    simp only [List.mem_singleton] at hj
    subst hj
    exact op_at ho hg hv h
/-- either of two may -/
theorem any_two {i k : Nat} {o o2 : Oper} {v2 : Value} {w2 : World} (hr : Region.ready md ops listed = [i, k]) (ho : ops[i]? = some o) (hg : o.guard = none) (hv : (execOp a.eval o).run P w = .ok (.value v) w')
    (ho2 : ops[k]? = some o2) (hg2 : o2.guard = none) (hv2 : (execOp a.eval o2).run P w = .ok (.value v2) w2)
    (h : wpAny P md ops Q fuel (listed.setIfInBounds i true) (a.put o.dst v) w') (h2 : wpAny P md ops Q fuel (listed.setIfInBounds k true) (a.put o2.dst v2) w2) : wpAny P md ops Q (fuel + 1) listed a w :=
  wpAny_all hr (by simp) fun j hj => by
    simp only [List.mem_cons, List.not_mem_nil, or_false] at hj
    rcases hj with rfl | rfl
    · exact op_at ho hg hv h
    · exact op_at ho2 hg2 hv2 h2
/-- two reads, and a third operation behind the second of them -/
theorem any_three {i j k : Nat} {oi oj ok : Oper} {vi vj vk : Value} (hi : ops[i]? = some oi) (hj : ops[j]? = some oj) (hk : ops[k]? = some ok) (gi : oi.guard = none) (gj : oj.guard = none) (gk : ok.guard = none)
    (hij : i ≠ j) (hik : i ≠ k) (dij : ∀ d, oj.dst = some d → oi.dst ≠ some d) (dik : ∀ d, ok.dst = some d → oi.dst ≠ some d)
    (r1 : Region.ready md ops listed = [i, j]) (r2 : Region.ready md ops (listed.setIfInBounds i true) = [j]) (r3 : Region.ready md ops ((listed.setIfInBounds i true).setIfInBounds j true) = [k])
    (r4 : Region.ready md ops (listed.setIfInBounds j true) = [i, k]) (r5 : Region.ready md ops ((listed.setIfInBounds j true).setIfInBounds i true) = [k]) (r6 : Region.ready md ops ((listed.setIfInBounds j true).setIfInBounds k true) = [i])
    (i1 : (execOp a.eval oi).run P w = .ok (.value vi) w) (i2 : (execOp (a.put oj.dst vj).eval oi).run P w = .ok (.value vi) w) (i3 : (execOp ((a.put oj.dst vj).put ok.dst vk).eval oi).run P w' = .ok (.value vi) w')
    (j1 : (execOp a.eval oj).run P w = .ok (.value vj) w) (j2 : (execOp (a.put oi.dst vi).eval oj).run P w = .ok (.value vj) w)
    (k1 : (execOp ((a.put oi.dst vi).put oj.dst vj).eval ok).run P w = .ok (.value vk) w') (k2 : (execOp (a.put oj.dst vj).eval ok).run P w = .ok (.value vk) w') (k3 : (execOp ((a.put oj.dst vj).put oi.dst vi).eval ok).run P w = .ok (.value vk) w')
    (h : wpAny P md ops Q fuel (((listed.setIfInBounds i true).setIfInBounds j true).setIfInBounds k true) (((a.put oi.dst vi).put oj.dst vj).put ok.dst vk) w') : wpAny P md ops Q (fuel + 1 + 1 + 1) listed a w := by
  refine any_two r1 hi gi i1 hj gj j1 ?_ ?_
  · exact any_one hj r2 gj j2 (any_one hk r3 gk k1 h)
  · refine any_two r4 hi gi i2 hk gk k2 ?_ ?_
    · refine any_one hk r5 gk k3 ?_
      rw [Act.put_comm a vj vi dij, Array.setIfInBounds_comm _ _ (Ne.symm hij)]
      exact h
    · refine any_one hi r6 gi i3 ?_
      rw [Act.put_comm (a.put oj.dst vj) vk vi dik, Act.put_comm a vj vi dij, Array.setIfInBounds_comm _ _ (Ne.symm hik), Array.setIfInBounds_comm _ _ (Ne.symm hij)]
      exact h
/-- a region whose order is open -/
theorem region_open {id : Nat} (n : Nat) (hn : ops.size = n) (hm : P.follows .mixedOrders = true) (h : wpAny P .any ops Q n (Array.replicate n false) a w.drew) : (Code.region id ops true).wp P Q a w := by
  subst hn
  exact wp_region_any hm h
theorem exec_nilc {o : Oper} {x : Operand} {p : Addr} (hop : o.op = .nilCheck x) (hx : a.eval x = .pointer (some p)) : (execOp a.eval o).run P w = .ok (.value (.pointer (some p))) w := by
  unfold execOp
  simp [hop, hx]
/-- the rest in its only order -/
theorem any_rest {l : List Oper} (n : Nat) (hf : fuel = (l.drop n).length) (hB : Region.seqB .any l.toArray (l.drop n).length n listed = true) (h : wpList P l.toArray Q (l.drop n) a w) : wpAny P .any l.toArray Q fuel listed a w := by
  subst hf
  exact wpAny_of_seq (l.drop n) n listed a w (fun j => by simp [List.getElem?_drop]) hB h
theorem exec_move {o : Oper} {x : Operand} (hop : o.op = .move x) (hx : a.eval x = v) : (execOp a.eval o).run P w = .ok (.value v) w := by
  unfold execOp
  simp [hop, hx]
/-- three reads, in any order, and nothing else till then -/
theorem any_reads {i j k : Nat} {oi oj ok : Oper} {vi vj vk : Value} (hi : ops[i]? = some oi) (hj : ops[j]? = some oj) (hk : ops[k]? = some ok) (gi : oi.guard = none) (gj : oj.guard = none) (gk : ok.guard = none)
    (hij : i ≠ j) (hik : i ≠ k) (hjk : j ≠ k) (dij : ∀ d, oj.dst = some d → oi.dst ≠ some d) (dik : ∀ d, ok.dst = some d → oi.dst ≠ some d) (djk : ∀ d, ok.dst = some d → oj.dst ≠ some d)
    (r1 : Region.ready md ops listed = [i, j, k]) (r2 : Region.ready md ops (listed.setIfInBounds i true) = [j, k]) (r3 : Region.ready md ops (listed.setIfInBounds j true) = [i, k]) (r4 : Region.ready md ops (listed.setIfInBounds k true) = [i, j])
    (r5 : Region.ready md ops ((listed.setIfInBounds i true).setIfInBounds j true) = [k]) (r6 : Region.ready md ops ((listed.setIfInBounds i true).setIfInBounds k true) = [j]) (r7 : Region.ready md ops ((listed.setIfInBounds j true).setIfInBounds k true) = [i])
    (xi : ∀ b : Act, (b = a ∨ b = a.put oj.dst vj ∨ b = a.put ok.dst vk ∨ b = (a.put oj.dst vj).put ok.dst vk) → (execOp b.eval oi).run P w = .ok (.value vi) w)
    (xj : ∀ b : Act, (b = a ∨ b = a.put oi.dst vi ∨ b = a.put ok.dst vk ∨ b = (a.put oi.dst vi).put ok.dst vk) → (execOp b.eval oj).run P w = .ok (.value vj) w)
    (xk : ∀ b : Act, (b = a ∨ b = a.put oi.dst vi ∨ b = a.put oj.dst vj ∨ b = (a.put oi.dst vi).put oj.dst vj) → (execOp b.eval ok).run P w = .ok (.value vk) w)
    (h : wpAny P md ops Q fuel (((listed.setIfInBounds i true).setIfInBounds j true).setIfInBounds k true) (((a.put oi.dst vi).put oj.dst vj).put ok.dst vk) w) : wpAny P md ops Q (fuel + 1 + 1 + 1) listed a w := by
  have c1 : ∀ b : Act, (b.put oj.dst vj).put oi.dst vi = (b.put oi.dst vi).put oj.dst vj := fun b => Act.put_comm b vj vi dij
  have c2 : ∀ b : Act, (b.put ok.dst vk).put oi.dst vi = (b.put oi.dst vi).put ok.dst vk := fun b => Act.put_comm b vk vi dik
  have c3 : ∀ b : Act, (b.put ok.dst vk).put oj.dst vj = (b.put oj.dst vj).put ok.dst vk := fun b => Act.put_comm b vk vj djk
  have s1 : (listed.setIfInBounds j true).setIfInBounds i true = (listed.setIfInBounds i true).setIfInBounds j true := Array.setIfInBounds_comm _ _ (Ne.symm hij)
  have s2 : ∀ l : Array Bool, (l.setIfInBounds k true).setIfInBounds i true = (l.setIfInBounds i true).setIfInBounds k true := fun l => Array.setIfInBounds_comm _ _ (Ne.symm hik)
  have s3 : ∀ l : Array Bool, (l.setIfInBounds k true).setIfInBounds j true = (l.setIfInBounds j true).setIfInBounds k true := fun l => Array.setIfInBounds_comm _ _ (Ne.symm hjk)
  refine wpAny_all r1 (by simp) fun n hn => ?_
  simp only [List.mem_cons, List.not_mem_nil, or_false] at hn
  rcases hn with rfl | rfl | rfl
  · refine op_at hi gi (xi a (.inl rfl)) (any_two r2 hj gj (xj _ (.inr (.inl rfl))) hk gk (xk _ (.inr (.inl rfl))) (any_one hk r5 gk (xk _ (.inr (.inr (.inr rfl)))) h) (any_one hj r6 gj (xj _ (.inr (.inr (.inr rfl)))) ?_))
    rw [c3, s3]
    exact h
  · refine op_at hj gj (xj a (.inl rfl)) (any_two r3 hi gi (xi _ (.inr (.inl rfl))) hk gk (xk _ (.inr (.inr (.inl rfl)))) (any_one hk (by rw [s1]; exact r5) gk (by rw [c1]; exact xk _ (.inr (.inr (.inr rfl)))) ?_) (any_one hi r7 gi (xi _ (.inr (.inr (.inr rfl)))) ?_))
    · rw [c1, s1]
      exact h
    · rw [c2, c1, s2, s1]
      exact h
  · refine op_at hk gk (xk a (.inl rfl)) (any_two r4 hi gi (xi _ (.inr (.inr (.inl rfl)))) hj gj (xj _ (.inr (.inr (.inl rfl)))) (any_one hj (by rw [s2]; exact r6) gj (by rw [c2]; exact xj _ (.inr (.inr (.inr rfl)))) ?_) (any_one hi (by rw [s3]; exact r7) gi (by rw [c3]; exact xi _ (.inr (.inr (.inr rfl)))) ?_))
    · rw [c2, c3, s2, s3]
      exact h
    · rw [c3, c2, c1, s3, s2, s1]
      exact h
end
section
variable {a : Act} {w : World} {o : Oper} {x : Operand}
theorem exec_int {p : Addr} {v : Value} (hop : o.op = .load 3 x) (hx : a.eval x = .pointer (some p)) (hc : w.cell? p = some v) : (execOp a.eval o).run Try.prog w = .ok (.value v) w := by
  unfold execOp
  simp only [hop, hx]
  simp [go_sem, hc]
theorem exec_buildI {y : Int} (hop : o.op = .buildSlice 22 1 #[(0, x)]) (hx : a.eval x = .int .i64 y) :
    (execOp a.eval o).run Try.prog w = .ok (.value (.slice (some ⟨w.heap.size, 0, none⟩) 1 1)) (w.alloc (.cells #[.int .i64 y] 3)) := by
  obtain ⟨i, hi, hz, hs, _⟩ := info_parts (P := Try.prog) (e := 3) (z := .int .i64 0) (size := 1) (bytes := 8) (by kernel_rfl)
  have hrun := run_buildSlice (P := Try.prog) w 22 3 1 #[(0, .int .i64 y)] #[.int .i64 y] i (.int .i64 0) Try.underlying22 hi hz (by rw [hs]; omega) (by rw [hs]; omega) (by
    rw [hs]
    exact Go.Great.fill_flat [Value.int .i64 y] _ (fun v hv => by simp only [List.mem_singleton] at hv; subst hv; rfl) (by simp))
  unfold execOp
  simp only [hop, List.map_toArray, List.map_cons, List.map_nil, hx, Sem.run_bind, hrun, Result.andThen_ok, Sem.run_pure]
end
end Go.Proofs.Ytimbchkoomjhkaa
