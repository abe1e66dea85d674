/- Several texts in one: Frames6, ApiCompat, ApiFolds. -/
import Derived.Test.YtidjjaginindoaaGreatPk1
import Derived.Test.YtidjjaginindoaaGreatPk3
import Derived.Deep.CutRange
import Derived.Test.YtidjjaginindoaaGreatPk7
/-! Frames6 -/
namespace Go.Proofs.YtidjjaginindoaaGreat
open Go.RowKit

theorem slots_any (n : Nat) (a : Act) (h : a.tmps.size = n) (hd : a.defers = []) : ∃ f : Nat → Value, a = { tmps := ((List.range n).map f).toArray, defers := [] } ∧ ∀ i, f i = a.eval (.tmp i) := by
  refine ⟨fun i => a.eval (.tmp i), ?_, fun _ => rfl⟩
  obtain ⟨t, d⟩ := a
  simp only at h hd
  subst hd h
  congr 1
  apply Array.ext
  · simp
  · intro i h1 h2
    simp [Act.eval, h1]
set_option maxRecDepth 100000 in
theorem slots135 (a : Act) (g : Value) (h : a.tmps.size = 135) (hd : a.defers = []) (hg : a.eval (.tmp 1) = g) : ∃ f : Nat → Value, a = { tmps := #[f 0, g, f 2, f 3, f 4, f 5, f 6, f 7, f 8, f 9, f 10, f 11, f 12, f 13, f 14, f 15, f 16, f 17, f 18, f 19, f 20, f 21, f 22, f 23, f 24, f 25, f 26, f 27, f 28, f 29, f 30, f 31, f 32, f 33, f 34, f 35, f 36, f 37, f 38, f 39, f 40, f 41, f 42, f 43, f 44, f 45, f 46, f 47, f 48, f 49, f 50, f 51, f 52, f 53, f 54, f 55, f 56, f 57, f 58, f 59, f 60, f 61, f 62, f 63, f 64, f 65, f 66, f 67, f 68, f 69, f 70, f 71, f 72, f 73, f 74, f 75, f 76, f 77, f 78, f 79, f 80, f 81, f 82, f 83, f 84, f 85, f 86, f 87, f 88, f 89, f 90, f 91, f 92, f 93, f 94, f 95, f 96, f 97, f 98, f 99, f 100, f 101, f 102, f 103, f 104, f 105, f 106, f 107, f 108, f 109, f 110, f 111, f 112, f 113, f 114, f 115, f 116, f 117, f 118, f 119, f 120, f 121, f 122, f 123, f 124, f 125, f 126, f 127, f 128, f 129, f 130, f 131, f 132, f 133, f 134], defers := [] } := by
  obtain ⟨f, ha, hf⟩ := slots_any 135 a h hd
  have e : ((List.range 135).map f).toArray = #[f 0, f 1, f 2, f 3, f 4, f 5, f 6, f 7, f 8, f 9, f 10, f 11, f 12, f 13, f 14, f 15, f 16, f 17, f 18, f 19, f 20, f 21, f 22, f 23, f 24, f 25, f 26, f 27, f 28, f 29, f 30, f 31, f 32, f 33, f 34, f 35, f 36, f 37, f 38, f 39, f 40, f 41, f 42, f 43, f 44, f 45, f 46, f 47, f 48, f 49, f 50, f 51, f 52, f 53, f 54, f 55, f 56, f 57, f 58, f 59, f 60, f 61, f 62, f 63, f 64, f 65, f 66, f 67, f 68, f 69, f 70, f 71, f 72, f 73, f 74, f 75, f 76, f 77, f 78, f 79, f 80, f 81, f 82, f 83, f 84, f 85, f 86, f 87, f 88, f 89, f 90, f 91, f 92, f 93, f 94, f 95, f 96, f 97, f 98, f 99, f 100, f 101, f 102, f 103, f 104, f 105, f 106, f 107, f 108, f 109, f 110, f 111, f 112, f 113, f 114, f 115, f 116, f 117, f 118, f 119, f 120, f 121, f 122, f 123, f 124, f 125, f 126, f 127, f 128, f 129, f 130, f 131, f 132, f 133, f 134] := by kernel_rfl
  rw [e, (hf 1).trans hg] at ha
  exact ⟨f, ha⟩
set_option maxRecDepth 100000 in
theorem slots79 (a : Act) (g : Value) (h : a.tmps.size = 79) (hd : a.defers = []) (hg : a.eval (.tmp 1) = g) : ∃ f : Nat → Value, a = { tmps := #[f 0, g, f 2, f 3, f 4, f 5, f 6, f 7, f 8, f 9, f 10, f 11, f 12, f 13, f 14, f 15, f 16, f 17, f 18, f 19, f 20, f 21, f 22, f 23, f 24, f 25, f 26, f 27, f 28, f 29, f 30, f 31, f 32, f 33, f 34, f 35, f 36, f 37, f 38, f 39, f 40, f 41, f 42, f 43, f 44, f 45, f 46, f 47, f 48, f 49, f 50, f 51, f 52, f 53, f 54, f 55, f 56, f 57, f 58, f 59, f 60, f 61, f 62, f 63, f 64, f 65, f 66, f 67, f 68, f 69, f 70, f 71, f 72, f 73, f 74, f 75, f 76, f 77, f 78], defers := [] } := by
  obtain ⟨f, ha, hf⟩ := slots_any 79 a h hd
  have e : ((List.range 79).map f).toArray = #[f 0, f 1, f 2, f 3, f 4, f 5, f 6, f 7, f 8, f 9, f 10, f 11, f 12, f 13, f 14, f 15, f 16, f 17, f 18, f 19, f 20, f 21, f 22, f 23, f 24, f 25, f 26, f 27, f 28, f 29, f 30, f 31, f 32, f 33, f 34, f 35, f 36, f 37, f 38, f 39, f 40, f 41, f 42, f 43, f 44, f 45, f 46, f 47, f 48, f 49, f 50, f 51, f 52, f 53, f 54, f 55, f 56, f 57, f 58, f 59, f 60, f 61, f 62, f 63, f 64, f 65, f 66, f 67, f 68, f 69, f 70, f 71, f 72, f 73, f 74, f 75, f 76, f 77, f 78] := by kernel_rfl
  rw [e, (hf 1).trans hg] at ha
  exact ⟨f, ha⟩
end Go.Proofs.YtidjjaginindoaaGreat

/-! ApiCompat -/
namespace Go.Proofs.YtidjjaginindoaaGreat
open Go.RowKit
open Go.Great (wp_anyFrame)

def compatHead : List Mp := [⟨160, [32]⟩, ⟨168, [32, 776]⟩, ⟨170, [97]⟩, ⟨175, [32, 772]⟩, ⟨178, [50]⟩, ⟨179, [51]⟩, ⟨180, [32, 769]⟩, ⟨181, [956]⟩, ⟨184, [32, 807]⟩, ⟨185, [49]⟩, ⟨186, [111]⟩, ⟨188, [49, 8260, 52]⟩, ⟨189, [49, 8260, 50]⟩, ⟨190, [51, 8260, 52]⟩, ⟨306, [73, 74]⟩, ⟨307, [105, 106]⟩, ⟨319, [76, 183]⟩, ⟨320, [108, 183]⟩, ⟨329, [700, 110]⟩, ⟨383, [115]⟩, ⟨728, [32, 774]⟩, ⟨729, [32, 775]⟩, ⟨730, [32, 778]⟩, ⟨731, [32, 808]⟩, ⟨733, [32, 779]⟩, ⟨890, [32, 837]⟩, ⟨900, [32, 769]⟩, ⟨901, [168, 769]⟩, ⟨8194, [32]⟩, ⟨8195, [32]⟩, ⟨8209, [8208]⟩, ⟨8228, [46]⟩, ⟨8229, [46, 46]⟩, ⟨8230, [46, 46, 46]⟩, ⟨8304, [48]⟩, ⟨8482, [84, 77]⟩, ⟨8544, [73]⟩, ⟨8545, [73, 73]⟩, ⟨8548, [86]⟩, ⟨8560, [105]⟩, ⟨8561, [105, 105]⟩, ⟨8564, [118]⟩, ⟨12288, [32]⟩, ⟨64256, [102, 102]⟩, ⟨64257, [102, 105]⟩, ⟨64258, [102, 108]⟩, ⟨64259, [102, 102, 105]⟩, ⟨64261, [383, 116]⟩, ⟨64262, [115, 116]⟩, ⟨65438, [12441]⟩, ⟨65439, [12442]⟩, ⟨65398, [12459]⟩]
/-- fullwidth forms, circled digits -/
def compatWide (k : Nat) : List Mp := (List.range k).map fun (i : Nat) => ⟨65281 + (i : Int), [33 + (i : Int)]⟩
def compatRing (k : Nat) : List Mp := (List.range k).map fun (i : Nat) => ⟨9312 + (i : Int), [49 + (i : Int)]⟩
def tabCompat : List Mp := compatHead ++ compatWide 94 ++ compatRing 9
theorem compatWide_next (k : Nat) : compatWide (k + 1) = compatWide k ++ [⟨65281 + (k : Int), [33 + (k : Int)]⟩] := by
  unfold compatWide
  rw [List.range_succ, List.map_append]
  rfl
theorem compatRing_next (k : Nat) : compatRing (k + 1) = compatRing k ++ [⟨9312 + (k : Int), [49 + (k : Int)]⟩] := by
  unfold compatRing
  rw [List.range_succ, List.map_append]
  rfl
theorem compatWide_len (k : Nat) : (compatHead ++ compatWide k).length = 52 + k := by
  unfold compatWide
  rw [List.length_append, List.length_map, List.length_range]
  rfl
theorem compatRing_len (k : Nat) : (compatHead ++ compatWide 94 ++ compatRing k).length = 52 + 94 + k := by
  unfold compatRing
  rw [List.length_append, List.length_map, List.length_range, compatWide_len]
set_option maxHeartbeats 4000000 in
set_option maxRecDepth 100000 in
theorem apiCompat (w : World) : Calls Tryz.prog 56 #[] w fun e w' => ∃ v, e = .returned v ∧ OwnM 97 w.heap.size w' v tabCompat ∧ Below w.heap.size w w' := by
  obtain ⟨i0, hi0, hz0, hz1, hz2⟩ := info_parts Tryz.infoMp
  go_enter Tryz.func56, Tryz.ntmps56
  go_upto_region 1 with (fail)
  rename_i K1 hK1
  refine wp_anyFrame 135 (by as_aux_lemma => kernel_rfl) rfl fun a1 hs1 hd1 => ?_
  apply wp_region_lit
  refine Go.Great.wpList_splitAt 104 (mpOps 22 97 "tables.go:62" 4 0 compatHead) (by as_aux_lemma => kernel_rfl) ?_
  refine wpList_mps 22 97 "tables.go:62" Tryz.underlying22 (by as_aux_lemma => kernel_rfl) (by as_aux_lemma => kernel_rfl) (fun _ _ _ => by as_aux_lemma => kernel_rfl) w.heap.size compatHead 4 0 a1 w (by rw [hs1]; exact Nat.le_of_ble_eq_true (by as_aux_lemma => kernel_rfl)) (by decide) (Nat.le_refl _) fun a2 w2 us hs2 hd2 hts hev _ hb2 => ?_
  refine wpList_buildMps rfl 75 97 _ compatHead 52 rfl us rfl 4 w2.heap.size rfl (some 108) rfl w.heap.size hb2.size (by as_aux_lemma => kernel_rfl) (by as_aux_lemma => kernel_rfl) (by as_aux_lemma => kernel_rfl) (by decide) (by decide) (by as_aux_lemma => kernel_rfl) hts hev fun w3 ho3 hb3 => ?_
  refine Go.Great.wpList_readTo rfl (some 1) rfl (.slice (some ⟨w2.heap.size, 0, none⟩) 52 52) ?_ ?_
  · have := Act.eval_put_same a2 108 (.slice (some ⟨w2.heap.size, 0, none⟩) 52 52) (by rw [hs2, hs1]; omega)
    exact congrArg (fun v => Result.ok (Next.value v) _) this
  apply wpList_nil
  refine hK1 _ _ ?_
  clear hK1 K1 hev hts
  have HO := hid ho3
  have HB := hid (hb2.trans (hb3.mono hb2.size))
  have hs4 : ((a2.put (some 108) (.slice (some ⟨w2.heap.size, 0, none⟩) 52 52)).put (some 1) (.slice (some ⟨w2.heap.size, 0, none⟩) 52 52)).tmps.size = 135 := by rw [Act.size_put, Act.size_put, hs2, hs1]
  have hd4 : ((a2.put (some 108) (.slice (some ⟨w2.heap.size, 0, none⟩) 52 52)).put (some 1) (.slice (some ⟨w2.heap.size, 0, none⟩) 52 52)).defers = [] := by rw [Act.defers_put', Act.defers_put', hd2, hd1]
  have he4 := Act.eval_put_same (a2.put (some 108) (.slice (some ⟨w2.heap.size, 0, none⟩) 52 52)) 1 (.slice (some ⟨w2.heap.size, 0, none⟩) 52 52) (by rw [Act.size_put, hs2, hs1]; omega)
  generalize (a2.put (some 108) (.slice (some ⟨w2.heap.size, 0, none⟩) 52 52)).put (some 1) (.slice (some ⟨w2.heap.size, 0, none⟩) 52 52) = a4 at hs4 hd4 he4 ⊢
  clear ho3 hb3 hb2 hs2 hd2 hs1 hd1
  obtain ⟨g, hg⟩ : ∃ g, g = Value.slice (some ⟨w2.heap.size, 0, none⟩) 52 52 := ⟨_, rfl⟩
  rw [← hg] at HO he4
  clear hg
  obtain ⟨f, rfl⟩ := slots135 a4 g hs4 hd4 he4
  clear hs4 hd4 he4
  go_wp2
  go_loopw [1, 2] (fun lv iv wr => ∃ k : Nat, k ≤ 94 ∧ iv = .int .i64 (65281 + (k : Int)) ∧ Hid (OwnM 97 w.heap.size wr lv (compatHead ++ compatWide k)) ∧ Hid (Below w.heap.size w wr)) (fun _ iv _ => 94 - ((intOf iv).toNat - 65281))
  case atStart => exact ⟨0, by omega, rfl, by show OwnM _ _ _ _ (compatHead ++ []); rw [List.append_nil]; exact HO.out, HB.out⟩
  case round =>
    obtain ⟨k, hk, rfl, hown, hbel⟩ := hrel
    obtain ⟨al, cl, hal⟩ := hown.out.form
    rw [compatWide_len] at hal
    subst hal
    have hsz := hbel.out.size
    by_cases hlt : k < 94
    · have e1 : wrap64 (65281 + (k : Int) - 65248) = 33 + (k : Int) := by unfold wrap64; omega
      go_wp2_with (at_builtin; go_loud (refine wpList_appM _ rfl _ _ 75 rfl w.heap.size 97 (by decide) 32 i0 (.agg #[.int .i64 0, .slice none 0 0]) Tryz.underlying75 hi0 hz0 hz1 hz2 rfl _ _ (52 + k) (compatWide_len k).symm rfl (hown.out.below (by (repeat (first | exact Below.refl _ _ | exact below_drewN _ | refine Below.drew ?_ | refine Below.alloc ?_ (by first | omega | (simp; done) | (simp; omega)) _ | refine Below.setCell ?_ (by first | (simp; done) | (simp; omega)) _ | refine below_drewN' ?_ _)))) (wr.heap.size + 1) ⟨65281 + (k : Int), [65281 + (k : Int) - 65248]⟩ (.slice (some ⟨wr.heap.size, 0, none⟩) 1 1) rfl ⟨laid_two _ _ _ _ 0, laid_two _ _ _ _ 1⟩ (laid_own wr hsz _ _) (by unfold maxLen; omega) (by omega) (by simp; omega) ?_); intro v6 w6 ho6 hg6 hb6; clear hg6)
      go_roundw
      case rel =>
        refine ⟨k + 1, by omega, by go_num, ?_, hbel.out.trans (Below.trans (show Below w.heap.size wr _ from by (repeat (first | exact Below.refl _ _ | exact below_drewN _ | refine Below.drew ?_ | refine Below.alloc ?_ (by first | omega | (simp; done) | (simp; omega)) _ | refine Below.setCell ?_ (by first | (simp; done) | (simp; omega)) _ | refine below_drewN' ?_ _))) hb6)⟩
        show OwnM _ _ _ _ _
        rw [compatWide_next, ← List.append_assoc, show (33 : Int) + (k : Int) = 65281 + (k : Int) - 65248 by omega]
        exact ho6
      case measure => simp [intOf]; omega
    · obtain rfl : k = 94 := by omega
      rw [show (65281 + ((94 : Nat) : Int)) = 65375 from rfl]
      go_wp2
      go_loopw [1, 3] (fun lv iv wr => ∃ k : Nat, k ≤ 9 ∧ iv = .int .i64 (9312 + (k : Int)) ∧ Hid (OwnM 97 w.heap.size wr lv (compatHead ++ compatWide 94 ++ compatRing k)) ∧ Hid (Below w.heap.size w wr)) (fun _ iv _ => 9 - ((intOf iv).toNat - 9312))
      case atStart => exact ⟨0, by omega, rfl, by show OwnM _ _ _ _ (compatHead ++ compatWide 94 ++ []); rw [List.append_nil]; exact hown.out, hbel.out⟩
      case round =>
        clear hown hbel hsz
        obtain ⟨k, hk, rfl, hown, hbel⟩ := hrel
        obtain ⟨al, cl, hal⟩ := hown.out.form
        rw [compatRing_len] at hal
        subst hal
        have hsz := hbel.out.size
        by_cases hlt : k < 9
        · have e1 : wrap64 (9312 + (k : Int) - 9312) = (k : Int) := by unfold wrap64; omega
          have e2 : wrap64 ((k : Int) + 49) = (k : Int) + 49 := by unfold wrap64; omega
          go_wp2_with (at_builtin; go_loud (refine wpList_appM _ rfl _ _ 75 rfl w.heap.size 97 (by decide) 32 i0 (.agg #[.int .i64 0, .slice none 0 0]) Tryz.underlying75 hi0 hz0 hz1 hz2 rfl _ _ (52 + 94 + k) (compatRing_len k).symm rfl (hown.out.below (by (repeat (first | exact Below.refl _ _ | exact below_drewN _ | refine Below.drew ?_ | refine Below.alloc ?_ (by first | omega | (simp; done) | (simp; omega)) _ | refine Below.setCell ?_ (by first | (simp; done) | (simp; omega)) _ | refine below_drewN' ?_ _)))) (wr.heap.size + 1) ⟨9312 + (k : Int), [9312 + (k : Int) - 9312 + 49]⟩ (.slice (some ⟨wr.heap.size, 0, none⟩) 1 1) rfl ⟨laid_two _ _ _ _ 0, laid_two _ _ _ _ 1⟩ (laid_own wr hsz _ _) (by unfold maxLen; omega) (by omega) (by simp; omega) ?_); intro v6 w6 ho6 hg6 hb6; clear hg6)
          go_roundw
          case rel =>
            refine ⟨k + 1, by omega, by go_num, ?_, hbel.out.trans (Below.trans (show Below w.heap.size wr _ from by (repeat (first | exact Below.refl _ _ | exact below_drewN _ | refine Below.drew ?_ | refine Below.alloc ?_ (by first | omega | (simp; done) | (simp; omega)) _ | refine Below.setCell ?_ (by first | (simp; done) | (simp; omega)) _ | refine below_drewN' ?_ _))) hb6)⟩
            show OwnM _ _ _ _ _
            rw [compatRing_next, ← List.append_assoc, show (49 : Int) + (k : Int) = 9312 + (k : Int) - 9312 + 49 by omega]
            exact ho6
          case measure => simp [intOf]; omega
        · obtain rfl : k = 9 := by omega
          go_wp2
          go_ret
          exact ⟨_, rfl, hown.out, hbel.out⟩
end Go.Proofs.YtidjjaginindoaaGreat

/-! ApiFolds -/
namespace Go.Proofs.YtidjjaginindoaaGreat
open Go.RowKit
open Go.Great (wp_anyFrame)

def foldsHead : List Mp := [⟨181, [956]⟩, ⟨223, [115, 115]⟩, ⟨304, [105, 775]⟩, ⟨329, [700, 110]⟩, ⟨383, [115]⟩, ⟨8482, [116, 109]⟩, ⟨8486, [969]⟩, ⟨8490, [107]⟩, ⟨8491, [229]⟩, ⟨8544, [8560]⟩, ⟨8545, [8561]⟩, ⟨8548, [8564]⟩, ⟨962, [963]⟩, ⟨64256, [102, 102]⟩, ⟨64257, [102, 105]⟩, ⟨64258, [102, 108]⟩, ⟨64259, [102, 102, 105]⟩, ⟨64261, [115, 116]⟩, ⟨64262, [115, 116]⟩]
def upS : ByteArray := ⟨#[65, 66, 67, 68, 69, 70, 71, 72, 73, 74, 75, 76, 77, 78, 79, 80, 81, 82, 83, 84, 85, 86, 87, 88, 89, 90, 195, 128, 195, 129, 195, 130, 195, 131, 195, 132, 195, 133, 195, 134, 195, 135, 195, 136, 195, 137, 195, 138, 195, 139, 195, 140, 195, 141, 195, 142, 195, 143, 195, 144, 195, 145, 195, 146, 195, 147, 195, 148, 195, 149, 195, 150, 195, 152, 195, 153, 195, 154, 195, 155, 195, 156, 195, 157, 195, 158, 196, 128, 196, 130, 196, 132, 196, 134, 196, 136, 196, 138, 196, 140, 196, 142, 196, 144, 196, 146, 196, 148, 196, 150, 196, 152, 196, 154, 196, 156, 196, 158, 196, 160, 196, 162, 196, 164, 196, 166, 196, 168, 196, 170, 196, 172, 196, 174, 196, 178, 196, 180, 196, 182, 196, 185, 196, 187, 196, 189, 196, 191, 197, 129, 197, 131, 197, 133, 197, 135, 197, 138, 197, 140, 197, 142, 197, 144, 197, 146, 197, 148, 197, 150, 197, 152, 197, 154, 197, 156, 197, 158, 197, 160, 197, 162, 197, 164, 197, 166, 197, 168, 197, 170, 197, 172, 197, 174, 197, 176, 197, 178, 197, 180, 197, 182, 197, 184, 197, 185, 197, 187, 197, 189, 199, 184, 225, 186, 128, 225, 187, 178, 225, 186, 160, 225, 186, 184, 225, 187, 138, 225, 187, 140, 225, 187, 164, 225, 186, 164, 225, 186, 190, 225, 187, 144, 225, 186, 166, 225, 187, 128, 225, 187, 146, 225, 186, 172, 225, 187, 134, 225, 187, 152, 206, 145, 206, 146, 206, 147, 206, 148, 206, 149, 206, 150, 206, 151, 206, 152, 206, 153, 206, 154, 206, 155, 206, 156, 206, 157, 206, 158, 206, 159, 206, 160, 206, 161, 206, 163, 206, 164, 206, 165, 206, 166, 206, 167, 206, 168, 206, 169, 206, 134, 206, 136, 206, 137, 206, 138, 206, 140, 206, 142, 206, 143, 206, 170, 206, 171, 208, 144, 208, 145, 208, 146, 208, 147, 208, 148, 208, 149, 208, 150, 208, 151, 208, 152, 208, 153, 208, 154, 208, 155, 208, 156, 208, 157, 208, 158, 208, 159, 208, 160, 208, 161, 208, 162, 208, 163, 208, 164, 208, 165, 208, 166, 208, 167, 208, 168, 208, 169, 208, 170, 208, 171, 208, 172, 208, 173, 208, 174, 208, 175, 208, 128, 208, 129, 208, 130, 208, 131, 208, 132, 208, 133, 208, 134, 208, 135, 208, 136, 208, 137, 208, 138, 208, 139, 208, 140, 208, 141, 208, 142, 208, 143]⟩
def lowS : ByteArray := ⟨#[97, 98, 99, 100, 101, 102, 103, 104, 105, 106, 107, 108, 109, 110, 111, 112, 113, 114, 115, 116, 117, 118, 119, 120, 121, 122, 195, 160, 195, 161, 195, 162, 195, 163, 195, 164, 195, 165, 195, 166, 195, 167, 195, 168, 195, 169, 195, 170, 195, 171, 195, 172, 195, 173, 195, 174, 195, 175, 195, 176, 195, 177, 195, 178, 195, 179, 195, 180, 195, 181, 195, 182, 195, 184, 195, 185, 195, 186, 195, 187, 195, 188, 195, 189, 195, 190, 196, 129, 196, 131, 196, 133, 196, 135, 196, 137, 196, 139, 196, 141, 196, 143, 196, 145, 196, 147, 196, 149, 196, 151, 196, 153, 196, 155, 196, 157, 196, 159, 196, 161, 196, 163, 196, 165, 196, 167, 196, 169, 196, 171, 196, 173, 196, 175, 196, 179, 196, 181, 196, 183, 196, 186, 196, 188, 196, 190, 197, 128, 197, 130, 197, 132, 197, 134, 197, 136, 197, 139, 197, 141, 197, 143, 197, 145, 197, 147, 197, 149, 197, 151, 197, 153, 197, 155, 197, 157, 197, 159, 197, 161, 197, 163, 197, 165, 197, 167, 197, 169, 197, 171, 197, 173, 197, 175, 197, 177, 197, 179, 197, 181, 197, 183, 195, 191, 197, 186, 197, 188, 197, 190, 199, 185, 225, 186, 129, 225, 187, 179, 225, 186, 161, 225, 186, 185, 225, 187, 139, 225, 187, 141, 225, 187, 165, 225, 186, 165, 225, 186, 191, 225, 187, 145, 225, 186, 167, 225, 187, 129, 225, 187, 147, 225, 186, 173, 225, 187, 135, 225, 187, 153, 206, 177, 206, 178, 206, 179, 206, 180, 206, 181, 206, 182, 206, 183, 206, 184, 206, 185, 206, 186, 206, 187, 206, 188, 206, 189, 206, 190, 206, 191, 207, 128, 207, 129, 207, 131, 207, 132, 207, 133, 207, 134, 207, 135, 207, 136, 207, 137, 206, 172, 206, 173, 206, 174, 206, 175, 207, 140, 207, 141, 207, 142, 207, 138, 207, 139, 208, 176, 208, 177, 208, 178, 208, 179, 208, 180, 208, 181, 208, 182, 208, 183, 208, 184, 208, 185, 208, 186, 208, 187, 208, 188, 208, 189, 208, 190, 208, 191, 209, 128, 209, 129, 209, 130, 209, 131, 209, 132, 209, 133, 209, 134, 209, 135, 209, 136, 209, 137, 209, 138, 209, 139, 209, 140, 209, 141, 209, 142, 209, 143, 209, 144, 209, 145, 209, 146, 209, 147, 209, 148, 209, 149, 209, 150, 209, 151, 209, 152, 209, 153, 209, 154, 209, 155, 209, 156, 209, 157, 209, 158, 209, 159]⟩
def foldsPairs : List Mp := List.zipWith (fun u l => ⟨u, [l]⟩) (runesS upS) (runesS lowS)
/-- fullwidth letters -/
def foldsWide (k : Nat) : List Mp := (List.range k).map fun (i : Nat) => ⟨65313 + (i : Int), [65345 + (i : Int)]⟩
def tabFolds : List Mp := foldsHead ++ foldsPairs ++ foldsWide 26
set_option maxRecDepth 100000 in
theorem folds_same : (runesS upS).length = (runesS lowS).length ∧ (runesS upS).length ≤ 1000 ∧ upS.size ≤ 1000000 ∧ lowS.size ≤ 1000000 := by decide +kernel
set_option maxRecDepth 100000 in
theorem foldsPairs_len : foldsPairs.length = (runesS upS).length := by
  unfold foldsPairs
  rw [List.length_zipWith, ← folds_same.1, Nat.min_self]
set_option maxRecDepth 100000 in
theorem foldsPairs_next {j : Nat} (hj : j < (runesS upS).length) : foldsPairs.take (j + 1) = foldsPairs.take j ++ [⟨(runesS upS).getD j 0, [(runesS lowS).getD j 0]⟩] := by
  have hl := folds_same.1
  rw [List.take_add_one]
  congr 1
  unfold foldsPairs
  rw [List.getElem?_zipWith]
  simp only [List.getD_eq_getElem?_getD]
  rw [List.getElem?_eq_getElem (by omega), List.getElem?_eq_getElem (by omega)]
  rfl
theorem foldsWide_next (k : Nat) : foldsWide (k + 1) = foldsWide k ++ [⟨65313 + (k : Int), [65345 + (k : Int)]⟩] := by
  unfold foldsWide
  rw [List.range_succ, List.map_append]
  rfl
theorem foldsWide_len {M : List Mp} {m : Nat} (h : m = M.length) (k : Nat) : (M ++ foldsWide k).length = m + k := by
  unfold foldsWide
  rw [List.length_append, List.length_map, List.length_range, h]

set_option maxHeartbeats 4000000 in
set_option maxRecDepth 100000 in
theorem apiFolds (w : World) : Calls Tryz.prog 57 #[] w fun e w' => ∃ v, e = .returned v ∧ OwnM 97 w.heap.size w' v tabFolds ∧ Below w.heap.size w w' := by
  obtain ⟨i0, hi0, hz0, hz1, hz2⟩ := info_parts Tryz.infoMp
  go_enter Tryz.func57, Tryz.ntmps57
  go_upto_region 1 with (fail)
  rename_i K1 hK1
  refine wp_anyFrame 79 (by as_aux_lemma => kernel_rfl) rfl fun a1 hs1 hd1 => ?_
  apply wp_region_lit
  refine Go.Great.wpList_splitAt 38 (mpOps 22 97 "tables.go:105" 6 0 foldsHead) (by as_aux_lemma => kernel_rfl) ?_
  refine wpList_mps 22 97 "tables.go:105" Tryz.underlying22 (by as_aux_lemma => kernel_rfl) (by as_aux_lemma => kernel_rfl) (fun _ _ _ => by as_aux_lemma => kernel_rfl) w.heap.size foldsHead 6 0 a1 w (by rw [hs1]; exact Nat.le_of_ble_eq_true (by as_aux_lemma => kernel_rfl)) (by decide) (Nat.le_refl _) fun a2 w2 us hs2 hd2 hts hev _ hb2 => ?_
  refine wpList_buildMps rfl 75 97 _ foldsHead 19 rfl us rfl 6 w2.heap.size rfl (some 44) rfl w.heap.size hb2.size (by as_aux_lemma => kernel_rfl) (by as_aux_lemma => kernel_rfl) (by as_aux_lemma => kernel_rfl) (by decide) (by decide) (by as_aux_lemma => kernel_rfl) hts hev fun w3 ho3 hb3 => ?_
  refine Go.Great.wpList_readTo rfl (some 1) rfl (.slice (some ⟨w2.heap.size, 0, none⟩) 19 19) ?_ ?_
  · have := Act.eval_put_same a2 44 (.slice (some ⟨w2.heap.size, 0, none⟩) 19 19) (by rw [hs2, hs1]; omega)
    exact congrArg (fun v => Result.ok (Next.value v) _) this
  apply wpList_nil
  refine hK1 _ _ ?_
  clear hK1 K1 hev hts
  have HO := hid ho3
  have HB := hid (hb2.trans (hb3.mono hb2.size))
  have hs4 : ((a2.put (some 44) (.slice (some ⟨w2.heap.size, 0, none⟩) 19 19)).put (some 1) (.slice (some ⟨w2.heap.size, 0, none⟩) 19 19)).tmps.size = 79 := by rw [Act.size_put, Act.size_put, hs2, hs1]
  have hd4 : ((a2.put (some 44) (.slice (some ⟨w2.heap.size, 0, none⟩) 19 19)).put (some 1) (.slice (some ⟨w2.heap.size, 0, none⟩) 19 19)).defers = [] := by rw [Act.defers_put', Act.defers_put', hd2, hd1]
  have he4 := Act.eval_put_same (a2.put (some 44) (.slice (some ⟨w2.heap.size, 0, none⟩) 19 19)) 1 (.slice (some ⟨w2.heap.size, 0, none⟩) 19 19) (by rw [Act.size_put, hs2, hs1]; omega)
  generalize (a2.put (some 44) (.slice (some ⟨w2.heap.size, 0, none⟩) 19 19)).put (some 1) (.slice (some ⟨w2.heap.size, 0, none⟩) 19 19) = a4 at hs4 hd4 he4 ⊢
  clear ho3 hb3 hb2 hs2 hd2 hs1 hd1
  obtain ⟨g, hg⟩ : ∃ g, g = Value.slice (some ⟨w2.heap.size, 0, none⟩) 19 19 := ⟨_, rfl⟩
  rw [← hg] at HO he4
  clear hg
  obtain ⟨f, rfl⟩ := slots79 a4 g hs4 hd4 he4
  clear hs4 hd4 he4
  have HS := hid folds_same
  go_upto_region 4 with (first
    | (have _u := HO1; clear _u; go_at_call 85; refine (apiRunes _ _ (show lowS.size ≤ 1000000 from HS.out.2.2.2)).mono ?_; rintro e w5 ⟨v5, rfl, ho5, hb5⟩; have HO2 := hid ((congrArg (fun s => Own .i64 3 _ _ v5 (runesS s)) (show _ = lowS from by kernel_rfl)).mp ho5); have HB2 := hid hb5; clear ho5 hb5)
    | (go_at_call 85; refine (apiRunes _ _ (show upS.size ≤ 1000000 from HS.out.2.2.1)).mono ?_; rintro e w4 ⟨v4, rfl, ho4, hb4⟩; have HO1 := hid ((congrArg (fun s => Own .i64 3 _ _ v4 (runesS s)) (show _ = upS from by kernel_rfl)).mp ho4); have HB1 := hid hb4; clear ho4 hb4))
  obtain ⟨au, cu, hau⟩ := HO1.out.sl.form
  obtain ⟨aw, cw, haw⟩ := HO2.out.sl.form
  subst hau haw
  have HOG := hid ((HO.out.below HB1.out).below HB2.out)
  have HUP := hid ((HO1.out.below HB2.out).mono HB.out.size)
  have HLW := hid (HO2.out.mono (Nat.le_trans HB.out.size HB1.out.size))
  have HBB := hid (HB.out.trans ((HB1.out.mono HB.out.size).trans (HB2.out.mono (Nat.le_trans HB.out.size HB1.out.size))))
  obtain ⟨n, hn⟩ : ∃ n, n = (runesS upS).length := ⟨_, rfl⟩
  have hn2 := HS.out.1
  rw [← hn] at hn2 HUP ⊢
  rw [← hn2] at HLW ⊢
  have HN := hid hn
  have hn3 : n ≤ 1000 := by rw [hn]; exact HS.out.2.1
  have HN2 := hid hn2
  clear hn hn2 HO1 HO2 HB1 HB2 HB HO
  generalize w5 = wa at HOG HUP HLW HBB ⊢
  have HPL := hid (foldsPairs_len.trans HN.out.symm)
  go_wp2
  go_loopw [1, 49] (fun lv iv wr => ∃ k : Nat, k ≤ n ∧ iv = .int .i64 k ∧ Hid (OwnM 97 w.heap.size wr lv (foldsHead ++ foldsPairs.take k)) ∧ Hid (Own .i64 3 w.heap.size wr (.slice au n cu) (runesS upS)) ∧ Hid (Own .i64 3 w.heap.size wr (.slice aw n cw) (runesS lowS)) ∧ Hid (Below w.heap.size w wr)) (fun _ iv _ => n - (intOf iv).toNat)
  case atStart => exact ⟨0, by omega, rfl, by show OwnM _ _ _ _ (foldsHead ++ []); rw [List.append_nil]; exact HOG.out, HUP.out, HLW.out, HBB.out⟩
  case round =>
    obtain ⟨k, hk, rfl, hown, hup, hlw, hbel⟩ := hrel
    obtain ⟨al, cl, hal⟩ := hown.out.form
    subst hal
    by_cases hlt : k < n
    · obtain ⟨a4, c4, he4, q4, -, h4⟩ := hup.out.sl
      obtain ⟨a5, c5, he5, q5, -, h5⟩ := hlw.out.sl
      injection he4 with he4 he4n he4c
      injection he5 with he5 he5n he5c
      subst he4 he5 he4c he5c
      have hjb : k < (runesS upS).length := by omega
      have hjd : k < (runesS lowS).length := by omega
      rcases h4 with h4 | ⟨b4, o4, rfl, hb4, y4⟩
      · omega
      rcases h5 with h5 | ⟨b5, o5, rfl, hb5, y5⟩
      · omega
      have y4 := y4 k hjb
      have y5 := y5 k hjd
      have HNX2 := hid (foldsPairs_next hjb)
      obtain ⟨M, hM⟩ : ∃ M, M = foldsHead ++ foldsPairs.take k := ⟨_, rfl⟩
      have HNX3 := hid (show foldsHead ++ foldsPairs.take (k + 1) = M ++ [⟨(runesS upS).getD k 0, [(runesS lowS).getD k 0]⟩] by rw [HNX2.out, ← List.append_assoc, hM])
      have hlm : M.length = 19 + k := by
        rw [hM, List.length_append, List.length_take, HPL.out, Nat.min_eq_left (by omega)]
        rfl
      rw [← hM, hlm] at hown ⊢
      have HLM := hid hlm
      clear hM hlm HNX2 he4n he5n q4 q5 hb4 hb5 hjb hjd
      generalize (runesS upS).getD k 0 = dj at y4 HNX3
      generalize (runesS lowS).getD k 0 = bj at y5 HNX3
      go_wp2
      refine region_open 14 rfl (by kernel_rfl) ?_
      have HN1 := hid ((Below.refl wr.heap.size wr).drew)
      generalize wr.drew = w1 at HN1 ⊢
      have hzw := HN1.out.size
      have HO1 := hid (hown.out.below HN1.out)
      have HA1 := hid (hup.out.below HN1.out)
      have HD1 := hid (hlw.out.below HN1.out)
      have HE1 := hid (hbel.out.trans (HN1.out.mono hbel.out.size))
      clear hown hup hlw
      have y4 := (HN1.out.cell (p := ⟨b4, o4 + k, none⟩) (World.block_lt_of_cell? wr _ y4)).trans y4
      have y5 := (HN1.out.cell (p := ⟨b5, o5 + k, none⟩) (World.block_lt_of_cell? wr _ y5)).trans y5
      have hb9 := Below.alloc (Below.refl w1.heap.size w1) (Nat.le_refl _) (.cells #[.int .i64 bj] 3)
      have y6 := (hb9.cell (p := ⟨b4, o4 + k, none⟩) (World.block_lt_of_cell? w1 _ y4)).trans y4
      refine wpAny_take (i := 0) (v := .slice al (19 + k) cl) rfl (by kernel_rfl) (by kernel_rfl) (by kernel_rfl) (fun _ _ _ h => h) (.inl ⟨by rfl, fun _ => exec_move rfl rfl⟩) ?_
      refine wpAny_take (i := 1) (v := .slice (some ⟨b4, o4, none⟩) n cu) rfl (by kernel_rfl) (by kernel_rfl) (by kernel_rfl) (fun _ _ _ h => h) (.inl ⟨by rfl, fun _ => exec_move rfl rfl⟩) ?_
      refine wpAny_take (i := 2) (v := .int .i64 k) rfl (by kernel_rfl) (by kernel_rfl) (by kernel_rfl) (fun _ _ _ h => h) (.inl ⟨by rfl, fun _ => exec_move rfl rfl⟩) ?_
      refine wpAny_take (i := 3) (v := .pointer (some ⟨b4, o4 + k, none⟩)) rfl (by kernel_rfl) (by kernel_rfl) (by kernel_rfl) (fun _ _ _ h => h) (.inl ⟨by rfl, fun _ => by go_simp⟩) ?_
      refine wpAny_take (i := 5) (v := .slice (some ⟨b5, o5, none⟩) n cw) rfl (by kernel_rfl) (by kernel_rfl) (by kernel_rfl) (fun _ _ _ h => h) (.inl ⟨by rfl, fun _ => exec_move rfl rfl⟩) ?_
      refine wpAny_take (i := 6) (v := .int .i64 k) rfl (by kernel_rfl) (by kernel_rfl) (by kernel_rfl) (fun _ _ _ h => h) (.inl ⟨by rfl, fun _ => exec_move rfl rfl⟩) ?_
      refine wpAny_take (i := 7) (v := .pointer (some ⟨b5, o5 + k, none⟩)) rfl (by kernel_rfl) (by kernel_rfl) (by kernel_rfl) (fun _ _ _ h => h) (.inl ⟨by rfl, fun _ => by go_simp⟩) ?_
      simp only [Act.put, List.getElem_toArray, List.getElem_cons_zero, List.getElem_cons_succ, List.setIfInBounds_toArray, List.set_cons_succ, List.set_cons_zero]
      refine any_three (i := 4) (j := 8) (k := 9) (vi := .int .i64 dj) (vj := .int .i64 bj) (vk := .slice (some ⟨w1.heap.size, 0, none⟩) 1 1) (w' := w1.alloc (.cells #[.int .i64 bj] 3)) rfl rfl rfl rfl rfl rfl (by decide) (by decide) (fun d h => by cases h; decide) (fun d h => by cases h; decide)
        (by kernel_rfl) (by kernel_rfl) (by kernel_rfl) (by kernel_rfl) (by kernel_rfl) (by kernel_rfl)
        (exec_int rfl rfl y4) (exec_int rfl rfl y4) (exec_int rfl rfl y6) (exec_int rfl rfl y5) (exec_int rfl rfl y5)
        (exec_buildI rfl rfl) (exec_buildI rfl rfl) (exec_buildI rfl rfl) ?_
      refine any_rest 10 rfl (by kernel_rfl) ?_
      simp only [List.drop_succ_cons, List.drop_zero, Act.put, List.getElem_toArray, List.getElem_cons_zero, List.getElem_cons_succ, List.setIfInBounds_toArray, List.set_cons_succ, List.set_cons_zero]
      have HBS := hid (Nat.le_trans hbel.out.size hzw)
      go_wp2_with (at_builtin; go_loud (refine wpList_appM _ rfl _ _ 75 rfl w.heap.size 97 (by decide) 32 i0 (.agg #[.int .i64 0, .slice none 0 0]) Tryz.underlying75 hi0 hz0 hz1 hz2 rfl _ M (19 + k) HLM.out.symm rfl (HO1.out.below (by (repeat (first | exact Below.refl _ _ | exact below_drewN _ | refine Below.drew ?_ | refine Below.alloc ?_ (by first | omega | (simp; done) | (simp; omega)) _ | refine Below.setCell ?_ (by first | (simp; done) | (simp; omega)) _ | refine below_drewN' ?_ _)))) (w1.heap.size + 1) ⟨dj, [bj]⟩ (.slice (some ⟨w1.heap.size, 0, none⟩) 1 1) rfl ⟨laid_two _ _ _ _ 0, laid_two _ _ _ _ 1⟩ (laid_own w1 HBS.out _ _) (by unfold maxLen; omega) (by omega) (by have := HE1.out.size; simp; omega) ?_); intro v6 w6 ho6 hg6 hb6; have HG6 := hid hg6; clear hg6)
      go_roundw
      case rel =>
        have hb7 : Below w1.heap.size w1 ((w1.alloc (.cells #[.int .i64 bj] 3)).alloc (.cells #[.int .i64 dj, .slice (some ⟨w1.heap.size, 0, none⟩) 1 1] 97)) := by (repeat (first | exact Below.refl _ _ | exact below_drewN _ | refine Below.drew ?_ | refine Below.alloc ?_ (by first | omega | (simp; done) | (simp; omega)) _ | refine Below.setCell ?_ (by first | (simp; done) | (simp; omega)) _ | refine below_drewN' ?_ _))
        obtain ⟨us7, _, hr7⟩ := HO1.out.below hb7
        refine ⟨k + 1, by omega, by go_num, ?_, own_row hr7 (HA1.out.below hb7) (by decide) HG6.out, own_row hr7 (HD1.out.below hb7) (by decide) HG6.out, HE1.out.trans (Below.trans (hb7.mono HE1.out.size) hb6)⟩
        show OwnM _ _ _ _ _
        rw [HNX3.out]
        exact ho6
      case measure => simp [intOf]; omega
    · have hk9 : k = n := by omega
      have e9 : foldsPairs.take k = foldsPairs := List.take_of_length_le (by rw [HPL.out, hk9]; exact Nat.le_refl _)
      rw [e9] at hown ⊢
      obtain ⟨m, hm⟩ : ∃ m, m = (foldsHead ++ foldsPairs).length := ⟨_, rfl⟩
      have hm2 : m ≤ 2000 := by
        rw [hm, List.length_append, HPL.out]
        have : foldsHead.length = 19 := rfl
        omega
      rw [← hm] at hown ⊢
      have HOWN := hid (show OwnM 97 w.heap.size wr (.slice al m cl) (foldsHead ++ foldsPairs) from hown.out)
      have HBEL := hid hbel.out
      have HM := hid hm
      clear hown hup hlw hbel hm e9
      have hsz9 := HBEL.out.size
      generalize wr = wz at HOWN HBEL hsz9 ⊢
      subst hk9
      go_wp2
      go_loopw [1, 5] (fun lv iv wr => ∃ k : Nat, k ≤ 26 ∧ iv = .int .i64 (65313 + (k : Int)) ∧ Hid (OwnM 97 w.heap.size wr lv (foldsHead ++ foldsPairs ++ foldsWide k)) ∧ Hid (Below w.heap.size w wr)) (fun _ iv _ => 26 - ((intOf iv).toNat - 65313))
      case atStart => exact ⟨0, by omega, rfl, by show OwnM _ _ _ _ (foldsHead ++ foldsPairs ++ []); rw [List.append_nil]; exact HOWN.out, HBEL.out⟩
      case round =>
        obtain ⟨j, hj, rfl, hown, hbel⟩ := hrel
        obtain ⟨al, cl, hal⟩ := hown.out.form
        rw [foldsWide_len HM.out] at hal
        subst hal
        have hsz := hbel.out.size
        by_cases hlt : j < 26
        · go_wp2_with (at_builtin; go_loud (refine wpList_appM _ rfl _ _ 75 rfl w.heap.size 97 (by decide) 32 i0 (.agg #[.int .i64 0, .slice none 0 0]) Tryz.underlying75 hi0 hz0 hz1 hz2 rfl _ _ (m + j) (foldsWide_len HM.out j).symm rfl (hown.out.below (by (repeat (first | exact Below.refl _ _ | exact below_drewN _ | refine Below.drew ?_ | refine Below.alloc ?_ (by first | omega | (simp; done) | (simp; omega)) _ | refine Below.setCell ?_ (by first | (simp; done) | (simp; omega)) _ | refine below_drewN' ?_ _)))) (wr.heap.size + 1) ⟨65313 + (j : Int), [65313 + (j : Int) + 32]⟩ (.slice (some ⟨wr.heap.size, 0, none⟩) 1 1) rfl ⟨laid_two _ _ _ _ 0, laid_two _ _ _ _ 1⟩ (laid_own wr hsz _ _) (by unfold maxLen; omega) (by omega) (by simp; omega) ?_); intro v6 w6 ho6 hg6 hb6; clear hg6)
          go_roundw
          case rel =>
            refine ⟨j + 1, by omega, by go_num, ?_, hbel.out.trans (Below.trans (show Below w.heap.size wr _ from by (repeat (first | exact Below.refl _ _ | exact below_drewN _ | refine Below.drew ?_ | refine Below.alloc ?_ (by first | omega | (simp; done) | (simp; omega)) _ | refine Below.setCell ?_ (by first | (simp; done) | (simp; omega)) _ | refine below_drewN' ?_ _))) hb6)⟩
            show OwnM _ _ _ _ _
            rw [foldsWide_next, ← List.append_assoc, show (65345 : Int) + (j : Int) = 65313 + (j : Int) + 32 by omega]
            exact ho6
          case measure => simp [intOf]; omega
        · obtain rfl : j = 26 := by omega
          go_wp2
          go_ret
          exact ⟨_, rfl, hown.out, hbel.out⟩
end Go.Proofs.YtidjjaginindoaaGreat
