/- Several texts in one: ApiCompat. -/
import Derived.Test.YtniooeohklblhaaPk5
import Derived.Test.YtniooeohklblhaaPk7
import Derived.Test.YtniooeohklblhaaPk1
import Derived.Deep.CutRange
/-! ApiCompat -/
namespace Go.Proofs.Ytniooeohklblhaa
open Go.RowKit
open Go.Great (wp_anyFrame)

def compatHead : List Mp := [⟨160, [32]⟩, ⟨168, [32, 776]⟩, ⟨170, [97]⟩, ⟨175, [32, 772]⟩, ⟨178, [50]⟩, ⟨179, [51]⟩, ⟨180, [32, 769]⟩, ⟨181, [956]⟩, ⟨184, [32, 807]⟩, ⟨185, [49]⟩, ⟨186, [111]⟩, ⟨188, [49, 8260, 52]⟩, ⟨189, [49, 8260, 50]⟩, ⟨190, [51, 8260, 52]⟩, ⟨306, [73, 74]⟩, ⟨307, [105, 106]⟩, ⟨319, [76, 183]⟩, ⟨320, [108, 183]⟩, ⟨329, [700, 110]⟩, ⟨383, [115]⟩, ⟨728, [32, 774]⟩, ⟨729, [32, 775]⟩, ⟨730, [32, 778]⟩, ⟨731, [32, 808]⟩, ⟨733, [32, 779]⟩, ⟨890, [32, 837]⟩, ⟨900, [32, 769]⟩, ⟨901, [168, 769]⟩, ⟨8194, [32]⟩, ⟨8195, [32]⟩, ⟨8209, [8208]⟩, ⟨8228, [46]⟩, ⟨8229, [46, 46]⟩, ⟨8230, [46, 46, 46]⟩, ⟨8304, [48]⟩, ⟨8482, [84, 77]⟩, ⟨8544, [73]⟩, ⟨8545, [73, 73]⟩, ⟨8548, [86]⟩, ⟨8560, [105]⟩, ⟨8561, [105, 105]⟩, ⟨8564, [118]⟩, ⟨12288, [32]⟩, ⟨64256, [102, 102]⟩, ⟨64257, [102, 105]⟩, ⟨64258, [102, 108]⟩, ⟨64259, [102, 102, 105]⟩, ⟨64261, [383, 116]⟩, ⟨64262, [115, 116]⟩, ⟨65438, [12441]⟩, ⟨65439, [12442]⟩, ⟨65398, [12459]⟩]
/-- fullwidth forms, circled digits -/
def compatWide (k : Nat) : List Mp := (List.range k).map fun (i : Nat) => ⟨65281 + (i : Int), [33 + (i : Int)]⟩
def compatRing (k : Nat) : List Mp := (List.range k).map fun (i : Nat) => ⟨9312 + (i : Int), [49 + (i : Int)]⟩
def tabCompat : List Mp := compatHead ++ compatWide 94 ++ compatRing 9
theorem compatWide_next (k : Nat) : compatWide (k + 1) = compatWide k ++ [⟨65281 + (k : Int), [33 + (k : Int)]⟩] := by
  unfold compatWide
  rw [List.range_succ, List.map_append]
  rfl
theorem compatRing_next (k : Nat) : compatRing (k + 1) = compatRing k ++ [⟨9312 + (k : Int), [49 + (k : Int)]⟩] := by
  unfold compatRing
  rw [List.range_succ, List.map_append]
  rfl
theorem compatWide_len (k : Nat) : (compatHead ++ compatWide k).length = 52 + k := by
  unfold compatWide
  rw [List.length_append, List.length_map, List.length_range]
  rfl
theorem compatRing_len (k : Nat) : (compatHead ++ compatWide 94 ++ compatRing k).length = 52 + 94 + k := by
  unfold compatRing
  rw [List.length_append, List.length_map, List.length_range, compatWide_len]
set_option maxHeartbeats 4000000 in
set_option maxRecDepth 100000 in
theorem apiCompat (w : World) : Calls Try.prog 45 #[] w fun e w' => ∃ v, e = .returned v ∧ OwnM 80 w.heap.size w' v tabCompat ∧ Below w.heap.size w w' := by
  obtain ⟨i0, hi0, hz0, hz1, hz2⟩ := info_parts Try.infoMp
  go_enter Try.func45, Try.ntmps45
  go_upto_region 1 with (fail)
  rename_i K1 hK1
  refine wp_anyFrame 135 (by as_aux_lemma => kernel_rfl) rfl fun a1 hs1 hd1 => ?_
  apply wp_region_lit
  refine Go.Great.wpList_splitAt 104 (mpOps 41 80 "tables.go:62" 4 0 compatHead) (by as_aux_lemma => kernel_rfl) ?_
  refine wpList_mps 41 80 "tables.go:62" Try.underlying41 (by as_aux_lemma => kernel_rfl) (by as_aux_lemma => kernel_rfl) (fun _ _ _ => by as_aux_lemma => kernel_rfl) w.heap.size compatHead 4 0 a1 w (by rw [hs1]; exact Nat.le_of_ble_eq_true (by as_aux_lemma => kernel_rfl)) (by decide) (Nat.le_refl _) fun a2 w2 us hs2 hd2 hts hev _ hb2 => ?_
  refine wpList_buildMps rfl 64 80 _ compatHead 52 rfl us rfl 4 w2.heap.size rfl (some 108) rfl w.heap.size hb2.size (by as_aux_lemma => kernel_rfl) (by as_aux_lemma => kernel_rfl) (by as_aux_lemma => kernel_rfl) (by decide) (by decide) (by as_aux_lemma => kernel_rfl) hts hev fun w3 ho3 hb3 => ?_
  refine Go.Great.wpList_readTo rfl (some 1) rfl (.slice (some ⟨w2.heap.size, 0, none⟩) 52 52) ?_ ?_
  · have := Act.eval_put_same a2 108 (.slice (some ⟨w2.heap.size, 0, none⟩) 52 52) (by rw [hs2, hs1]; omega)
    exact congrArg (fun v => Result.ok (Next.value v) _) this
  apply wpList_nil
  refine hK1 _ _ ?_
  clear hK1 K1 hev hts
  have HO := hid ho3
  have HB := hid (hb2.trans (hb3.mono hb2.size))
  have hs4 : ((a2.put (some 108) (.slice (some ⟨w2.heap.size, 0, none⟩) 52 52)).put (some 1) (.slice (some ⟨w2.heap.size, 0, none⟩) 52 52)).tmps.size = 135 := by rw [Act.size_put, Act.size_put, hs2, hs1]
  have hd4 : ((a2.put (some 108) (.slice (some ⟨w2.heap.size, 0, none⟩) 52 52)).put (some 1) (.slice (some ⟨w2.heap.size, 0, none⟩) 52 52)).defers = [] := by rw [Act.defers_put', Act.defers_put', hd2, hd1]
  have he4 := Act.eval_put_same (a2.put (some 108) (.slice (some ⟨w2.heap.size, 0, none⟩) 52 52)) 1 (.slice (some ⟨w2.heap.size, 0, none⟩) 52 52) (by rw [Act.size_put, hs2, hs1]; omega)
  generalize (a2.put (some 108) (.slice (some ⟨w2.heap.size, 0, none⟩) 52 52)).put (some 1) (.slice (some ⟨w2.heap.size, 0, none⟩) 52 52) = a4 at hs4 hd4 he4 ⊢
  clear ho3 hb3 hb2 hs2 hd2 hs1 hd1
  obtain ⟨g, hg⟩ : ∃ g, g = Value.slice (some ⟨w2.heap.size, 0, none⟩) 52 52 := ⟨_, rfl⟩
  rw [← hg] at HO he4
  clear hg
  obtain ⟨f, rfl⟩ := slots135 a4 g hs4 hd4 he4
  clear hs4 hd4 he4
  go_wp2
  go_loopw [1, 2] (fun lv iv wr => ∃ k : Nat, k ≤ 94 ∧ iv = .int .i64 (65281 + (k : Int)) ∧ Hid (OwnM 80 w.heap.size wr lv (compatHead ++ compatWide k)) ∧ Hid (Below w.heap.size w wr)) (fun _ iv _ => 94 - ((intOf iv).toNat - 65281))
  case atStart => exact ⟨0, by omega, rfl, by show OwnM _ _ _ _ (compatHead ++ []); rw [List.append_nil]; exact HO.out, HB.out⟩
  case round =>
    obtain ⟨k, hk, rfl, hown, hbel⟩ := hrel
    obtain ⟨al, cl, hal⟩ := hown.out.form
    rw [compatWide_len] at hal
    subst hal
    have hsz := hbel.out.size
    by_cases hlt : k < 94
    · have e1 : wrap64 (65281 + (k : Int) - 65248) = 33 + (k : Int) := by unfold wrap64; omega
      go_wp2_with (at_builtin; go_loud (refine wpList_appM _ rfl _ _ 64 rfl w.heap.size 80 (by decide) 32 i0 (.agg #[.int .i64 0, .slice none 0 0]) Try.underlying64 hi0 hz0 hz1 hz2 rfl _ _ (52 + k) (compatWide_len k).symm rfl (hown.out.below (by (repeat (first | exact Below.refl _ _ | exact below_drewN _ | refine Below.drew ?_ | refine Below.alloc ?_ (by first | omega | (simp; done) | (simp; omega)) _ | refine Below.setCell ?_ (by first | (simp; done) | (simp; omega)) _ | refine below_drewN' ?_ _)))) (wr.heap.size + 1) ⟨65281 + (k : Int), [65281 + (k : Int) - 65248]⟩ (.slice (some ⟨wr.heap.size, 0, none⟩) 1 1) rfl ⟨laid_two _ _ _ _ 0, laid_two _ _ _ _ 1⟩ (laid_own wr hsz _ _) (by unfold maxLen; omega) (by omega) (by simp; omega) ?_); intro v6 w6 ho6 hg6 hb6; clear hg6)
      go_roundw
      case rel =>
        refine ⟨k + 1, by omega, by go_num, ?_, hbel.out.trans (Below.trans (show Below w.heap.size wr _ from by (repeat (first | exact Below.refl _ _ | exact below_drewN _ | refine Below.drew ?_ | refine Below.alloc ?_ (by first | omega | (simp; done) | (simp; omega)) _ | refine Below.setCell ?_ (by first | (simp; done) | (simp; omega)) _ | refine below_drewN' ?_ _))) hb6)⟩
        show OwnM _ _ _ _ _
        rw [compatWide_next, ← List.append_assoc, show (33 : Int) + (k : Int) = 65281 + (k : Int) - 65248 by omega]
        exact ho6
      case measure => simp [intOf]; omega
    · obtain rfl : k = 94 := by omega
      rw [show (65281 + ((94 : Nat) : Int)) = 65375 from rfl]
      go_wp2
      go_loopw [1, 3] (fun lv iv wr => ∃ k : Nat, k ≤ 9 ∧ iv = .int .i64 (9312 + (k : Int)) ∧ Hid (OwnM 80 w.heap.size wr lv (compatHead ++ compatWide 94 ++ compatRing k)) ∧ Hid (Below w.heap.size w wr)) (fun _ iv _ => 9 - ((intOf iv).toNat - 9312))
      case atStart => exact ⟨0, by omega, rfl, by show OwnM _ _ _ _ (compatHead ++ compatWide 94 ++ []); rw [List.append_nil]; exact hown.out, hbel.out⟩
      case round =>
        clear hown hbel hsz
        obtain ⟨k, hk, rfl, hown, hbel⟩ := hrel
        obtain ⟨al, cl, hal⟩ := hown.out.form
        rw [compatRing_len] at hal
        subst hal
        have hsz := hbel.out.size
        by_cases hlt : k < 9
        · have e1 : wrap64 (9312 + (k : Int) - 9312) = (k : Int) := by unfold wrap64; omega
          have e2 : wrap64 ((k : Int) + 49) = (k : Int) + 49 := by unfold wrap64; omega
          go_wp2_with (at_builtin; go_loud (refine wpList_appM _ rfl _ _ 64 rfl w.heap.size 80 (by decide) 32 i0 (.agg #[.int .i64 0, .slice none 0 0]) Try.underlying64 hi0 hz0 hz1 hz2 rfl _ _ (52 + 94 + k) (compatRing_len k).symm rfl (hown.out.below (by (repeat (first | exact Below.refl _ _ | exact below_drewN _ | refine Below.drew ?_ | refine Below.alloc ?_ (by first | omega | (simp; done) | (simp; omega)) _ | refine Below.setCell ?_ (by first | (simp; done) | (simp; omega)) _ | refine below_drewN' ?_ _)))) (wr.heap.size + 1) ⟨9312 + (k : Int), [9312 + (k : Int) - 9312 + 49]⟩ (.slice (some ⟨wr.heap.size, 0, none⟩) 1 1) rfl ⟨laid_two _ _ _ _ 0, laid_two _ _ _ _ 1⟩ (laid_own wr hsz _ _) (by unfold maxLen; omega) (by omega) (by simp; omega) ?_); intro v6 w6 ho6 hg6 hb6; clear hg6)
          go_roundw
          case rel =>
            refine ⟨k + 1, by omega, by go_num, ?_, hbel.out.trans (Below.trans (show Below w.heap.size wr _ from by (repeat (first | exact Below.refl _ _ | exact below_drewN _ | refine Below.drew ?_ | refine Below.alloc ?_ (by first | omega | (simp; done) | (simp; omega)) _ | refine Below.setCell ?_ (by first | (simp; done) | (simp; omega)) _ | refine below_drewN' ?_ _))) hb6)⟩
            show OwnM _ _ _ _ _
            rw [compatRing_next, ← List.append_assoc, show (49 : Int) + (k : Int) = 9312 + (k : Int) - 9312 + 49 by omega]
            exact ho6
          case measure => simp [intOf]; omega
        · obtain rfl : k = 9 := by omega
          go_wp2
          go_ret
          exact ⟨_, rfl, hown.out, hbel.out⟩
end Go.Proofs.Ytniooeohklblhaa
