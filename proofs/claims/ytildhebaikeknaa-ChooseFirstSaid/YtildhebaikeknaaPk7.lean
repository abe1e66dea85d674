/- Several texts in one: Frames6, ApiCompat, ApiFolds. -/
import Derived.Test.YtildhebaikeknaaPk1
import Derived.Test.YtildhebaikeknaaPk4
import Derived.Deep.CutRange
import Derived.Test.YtildhebaikeknaaPk6
/-! Frames6 -/
namespace Go.Proofs.Ytildhebaikeknaa
open Go.RowKit

theorem slots_any (n : Nat) (a : Act) (h : a.tmps.size = n) (hd : a.defers = []) : ∃ f : Nat → Value, a = { tmps := ((List.range n).map f).toArray, defers := [] } ∧ ∀ i, f i = a.eval (.tmp i) := by
  refine ⟨fun i => a.eval (.tmp i), ?_, fun _ => rfl⟩
  obtain ⟨t, d⟩ := a
  simp only at h hd
  subst hd h
  congr 1
  apply Array.ext
  · simp
  · intro i h1 h2
    simp [Act.eval, h1]
set_option maxRecDepth 100000 in
theorem slots135 (a : Act) (g : Value) (h : a.tmps.size = 135) (hd : a.defers = []) (hg : a.eval (.tmp 1) = g) : ∃ f : Nat → Value, a = { tmps := #[f 0, g, f 2, f 3, f 4, f 5, f 6, f 7, f 8, f 9, f 10, f 11, f 12, f 13, f 14, f 15, f 16, f 17, f 18, f 19, f 20, f 21, f 22, f 23, f 24, f 25, f 26, f 27, f 28, f 29, f 30, f 31, f 32, f 33, f 34, f 35, f 36, f 37, f 38, f 39, f 40, f 41, f 42, f 43, f 44, f 45, f 46, f 47, f 48, f 49, f 50, f 51, f 52, f 53, f 54, f 55, f 56, f 57, f 58, f 59, f 60, f 61, f 62, f 63, f 64, f 65, f 66, f 67, f 68, f 69, f 70, f 71, f 72, f 73, f 74, f 75, f 76, f 77, f 78, f 79, f 80, f 81, f 82, f 83, f 84, f 85, f 86, f 87, f 88, f 89, f 90, f 91, f 92, f 93, f 94, f 95, f 96, f 97, f 98, f 99, f 100, f 101, f 102, f 103, f 104, f 105, f 106, f 107, f 108, f 109, f 110, f 111, f 112, f 113, f 114, f 115, f 116, f 117, f 118, f 119, f 120, f 121, f 122, f 123, f 124, f 125, f 126, f 127, f 128, f 129, f 130, f 131, f 132, f 133, f 134], defers := [] } := by
  obtain ⟨f, ha, hf⟩ := slots_any 135 a h hd
  have e : ((List.range 135).map f).toArray = #[f 0, f 1, f 2, f 3, f 4, f 5, f 6, f 7, f 8, f 9, f 10, f 11, f 12, f 13, f 14, f 15, f 16, f 17, f 18, f 19, f 20, f 21, f 22, f 23, f 24, f 25, f 26, f 27, f 28, f 29, f 30, f 31, f 32, f 33, f 34, f 35, f 36, f 37, f 38, f 39, f 40, f 41, f 42, f 43, f 44, f 45, f 46, f 47, f 48, f 49, f 50, f 51, f 52, f 53, f 54, f 55, f 56, f 57, f 58, f 59, f 60, f 61, f 62, f 63, f 64, f 65, f 66, f 67, f 68, f 69, f 70, f 71, f 72, f 73, f 74, f 75, f 76, f 77, f 78, f 79, f 80, f 81, f 82, f 83, f 84, f 85, f 86, f 87, f 88, f 89, f 90, f 91, f 92, f 93, f 94, f 95, f 96, f 97, f 98, f 99, f 100, f 101, f 102, f 103, f 104, f 105, f 106, f 107, f 108, f 109, f 110, f 111, f 112, f 113, f 114, f 115, f 116, f 117, f 118, f 119, f 120, f 121, f 122, f 123, f 124, f 125, f 126, f 127, f 128, f 129, f 130, f 131, f 132, f 133, f 134] := by kernel_rfl
  rw [e, (hf 1).trans hg] at ha
  exact ⟨f, ha⟩
set_option maxRecDepth 100000 in
theorem slots79 (a : Act) (g : Value) (h : a.tmps.size = 79) (hd : a.defers = []) (hg : a.eval (.tmp 1) = g) : ∃ f : Nat → Value, a = { tmps := #[f 0, g, f 2, f 3, f 4, f 5, f 6, f 7, f 8, f 9, f 10, f 11, f 12, f 13, f 14, f 15, f 16, f 17, f 18, f 19, f 20, f 21, f 22, f 23, f 24, f 25, f 26, f 27, f 28, f 29, f 30, f 31, f 32, f 33, f 34, f 35, f 36, f 37, f 38, f 39, f 40, f 41, f 42, f 43, f 44, f 45, f 46, f 47, f 48, f 49, f 50, f 51, f 52, f 53, f 54, f 55, f 56, f 57, f 58, f 59, f 60, f 61, f 62, f 63, f 64, f 65, f 66, f 67, f 68, f 69, f 70, f 71, f 72, f 73, f 74, f 75, f 76, f 77, f 78], defers := [] } := by
  obtain ⟨f, ha, hf⟩ := slots_any 79 a h hd
  have e : ((List.range 79).map f).toArray = #[f 0, f 1, f 2, f 3, f 4, f 5, f 6, f 7, f 8, f 9, f 10, f 11, f 12, f 13, f 14, f 15, f 16, f 17, f 18, f 19, f 20, f 21, f 22, f 23, f 24, f 25, f 26, f 27, f 28, f 29, f 30, f 31, f 32, f 33, f 34, f 35, f 36, f 37, f 38, f 39, f 40, f 41, f 42, f 43, f 44, f 45, f 46, f 47, f 48, f 49, f 50, f 51, f 52, f 53, f 54, f 55, f 56, f 57, f 58, f 59, f 60, f 61, f 62, f 63, f 64, f 65, f 66, f 67, f 68, f 69, f 70, f 71, f 72, f 73, f 74, f 75, f 76, f 77, f 78] := by kernel_rfl
  rw [e, (hf 1).trans hg] at ha
  exact ⟨f, ha⟩
end Go.Proofs.Ytildhebaikeknaa

/-! ApiCompat -/
namespace Go.Proofs.Ytildhebaikeknaa
open Go.RowKit
open Go.Great (wp_anyFrame)

def compatHead : List Mp := [⟨160, [32]⟩, ⟨168, [32, 776]⟩, ⟨170, [97]⟩, ⟨175, [32, 772]⟩, ⟨178, [50]⟩, ⟨179, [51]⟩, ⟨180, [32, 769]⟩, ⟨181, [956]⟩, ⟨184, [32, 807]⟩, ⟨185, [49]⟩, ⟨186, [111]⟩, ⟨188, [49, 8260, 52]⟩, ⟨189, [49, 8260, 50]⟩, ⟨190, [51, 8260, 52]⟩, ⟨306, [73, 74]⟩, ⟨307, [105, 106]⟩, ⟨319, [76, 183]⟩, ⟨320, [108, 183]⟩, ⟨329, [700, 110]⟩, ⟨383, [115]⟩, ⟨728, [32, 774]⟩, ⟨729, [32, 775]⟩, ⟨730, [32, 778]⟩, ⟨731, [32, 808]⟩, ⟨733, [32, 779]⟩, ⟨890, [32, 837]⟩, ⟨900, [32, 769]⟩, ⟨901, [168, 769]⟩, ⟨8194, [32]⟩, ⟨8195, [32]⟩, ⟨8209, [8208]⟩, ⟨8228, [46]⟩, ⟨8229, [46, 46]⟩, ⟨8230, [46, 46, 46]⟩, ⟨8304, [48]⟩, ⟨8482, [84, 77]⟩, ⟨8544, [73]⟩, ⟨8545, [73, 73]⟩, ⟨8548, [86]⟩, ⟨8560, [105]⟩, ⟨8561, [105, 105]⟩, ⟨8564, [118]⟩, ⟨12288, [32]⟩, ⟨64256, [102, 102]⟩, ⟨64257, [102, 105]⟩, ⟨64258, [102, 108]⟩, ⟨64259, [102, 102, 105]⟩, ⟨64261, [383, 116]⟩, ⟨64262, [115, 116]⟩, ⟨65438, [12441]⟩, ⟨65439, [12442]⟩, ⟨65398, [12459]⟩]
/-- fullwidth forms, circled digits -/
def compatWide (k : Nat) : List Mp := (List.range k).map fun (i : Nat) => ⟨65281 + (i : Int), [33 + (i : Int)]⟩
def compatRing (k : Nat) : List Mp := (List.range k).map fun (i : Nat) => ⟨9312 + (i : Int), [49 + (i : Int)]⟩
def tabCompat : List Mp := compatHead ++ compatWide 94 ++ compatRing 9
theorem compatWide_next (k : Nat) : compatWide (k + 1) = compatWide k ++ [⟨65281 + (k : Int), [33 + (k : Int)]⟩] := by
  unfold compatWide
  rw [List.range_succ, List.map_append]
  rfl
theorem compatRing_next (k : Nat) : compatRing (k + 1) = compatRing k ++ [⟨9312 + (k : Int), [49 + (k : Int)]⟩] := by
  unfold compatRing
  rw [List.range_succ, List.map_append]
  rfl
theorem compatWide_len (k : Nat) : (compatHead ++ compatWide k).length = 52 + k := by
  unfold compatWide
  rw [List.length_append, List.length_map, List.length_range]
  rfl
theorem compatRing_len (k : Nat) : (compatHead ++ compatWide 94 ++ compatRing k).length = 52 + 94 + k := by
  unfold compatRing
  rw [List.length_append, List.length_map, List.length_range, compatWide_len]
end Go.Proofs.Ytildhebaikeknaa

/-! ApiFolds -/
namespace Go.Proofs.Ytildhebaikeknaa
open Go.RowKit
open Go.Great (wp_anyFrame)

def foldsHead : List Mp := [⟨181, [956]⟩, ⟨223, [115, 115]⟩, ⟨304, [105, 775]⟩, ⟨329, [700, 110]⟩, ⟨383, [115]⟩, ⟨8482, [116, 109]⟩, ⟨8486, [969]⟩, ⟨8490, [107]⟩, ⟨8491, [229]⟩, ⟨8544, [8560]⟩, ⟨8545, [8561]⟩, ⟨8548, [8564]⟩, ⟨962, [963]⟩, ⟨64256, [102, 102]⟩, ⟨64257, [102, 105]⟩, ⟨64258, [102, 108]⟩, ⟨64259, [102, 102, 105]⟩, ⟨64261, [115, 116]⟩, ⟨64262, [115, 116]⟩]
def upS : ByteArray := ⟨#[65, 66, 67, 68, 69, 70, 71, 72, 73, 74, 75, 76, 77, 78, 79, 80, 81, 82, 83, 84, 85, 86, 87, 88, 89, 90, 195, 128, 195, 129, 195, 130, 195, 131, 195, 132, 195, 133, 195, 134, 195, 135, 195, 136, 195, 137, 195, 138, 195, 139, 195, 140, 195, 141, 195, 142, 195, 143, 195, 144, 195, 145, 195, 146, 195, 147, 195, 148, 195, 149, 195, 150, 195, 152, 195, 153, 195, 154, 195, 155, 195, 156, 195, 157, 195, 158, 196, 128, 196, 130, 196, 132, 196, 134, 196, 136, 196, 138, 196, 140, 196, 142, 196, 144, 196, 146, 196, 148, 196, 150, 196, 152, 196, 154, 196, 156, 196, 158, 196, 160, 196, 162, 196, 164, 196, 166, 196, 168, 196, 170, 196, 172, 196, 174, 196, 178, 196, 180, 196, 182, 196, 185, 196, 187, 196, 189, 196, 191, 197, 129, 197, 131, 197, 133, 197, 135, 197, 138, 197, 140, 197, 142, 197, 144, 197, 146, 197, 148, 197, 150, 197, 152, 197, 154, 197, 156, 197, 158, 197, 160, 197, 162, 197, 164, 197, 166, 197, 168, 197, 170, 197, 172, 197, 174, 197, 176, 197, 178, 197, 180, 197, 182, 197, 184, 197, 185, 197, 187, 197, 189, 199, 184, 225, 186, 128, 225, 187, 178, 225, 186, 160, 225, 186, 184, 225, 187, 138, 225, 187, 140, 225, 187, 164, 225, 186, 164, 225, 186, 190, 225, 187, 144, 225, 186, 166, 225, 187, 128, 225, 187, 146, 225, 186, 172, 225, 187, 134, 225, 187, 152, 206, 145, 206, 146, 206, 147, 206, 148, 206, 149, 206, 150, 206, 151, 206, 152, 206, 153, 206, 154, 206, 155, 206, 156, 206, 157, 206, 158, 206, 159, 206, 160, 206, 161, 206, 163, 206, 164, 206, 165, 206, 166, 206, 167, 206, 168, 206, 169, 206, 134, 206, 136, 206, 137, 206, 138, 206, 140, 206, 142, 206, 143, 206, 170, 206, 171, 208, 144, 208, 145, 208, 146, 208, 147, 208, 148, 208, 149, 208, 150, 208, 151, 208, 152, 208, 153, 208, 154, 208, 155, 208, 156, 208, 157, 208, 158, 208, 159, 208, 160, 208, 161, 208, 162, 208, 163, 208, 164, 208, 165, 208, 166, 208, 167, 208, 168, 208, 169, 208, 170, 208, 171, 208, 172, 208, 173, 208, 174, 208, 175, 208, 128, 208, 129, 208, 130, 208, 131, 208, 132, 208, 133, 208, 134, 208, 135, 208, 136, 208, 137, 208, 138, 208, 139, 208, 140, 208, 141, 208, 142, 208, 143]⟩
def lowS : ByteArray := ⟨#[97, 98, 99, 100, 101, 102, 103, 104, 105, 106, 107, 108, 109, 110, 111, 112, 113, 114, 115, 116, 117, 118, 119, 120, 121, 122, 195, 160, 195, 161, 195, 162, 195, 163, 195, 164, 195, 165, 195, 166, 195, 167, 195, 168, 195, 169, 195, 170, 195, 171, 195, 172, 195, 173, 195, 174, 195, 175, 195, 176, 195, 177, 195, 178, 195, 179, 195, 180, 195, 181, 195, 182, 195, 184, 195, 185, 195, 186, 195, 187, 195, 188, 195, 189, 195, 190, 196, 129, 196, 131, 196, 133, 196, 135, 196, 137, 196, 139, 196, 141, 196, 143, 196, 145, 196, 147, 196, 149, 196, 151, 196, 153, 196, 155, 196, 157, 196, 159, 196, 161, 196, 163, 196, 165, 196, 167, 196, 169, 196, 171, 196, 173, 196, 175, 196, 179, 196, 181, 196, 183, 196, 186, 196, 188, 196, 190, 197, 128, 197, 130, 197, 132, 197, 134, 197, 136, 197, 139, 197, 141, 197, 143, 197, 145, 197, 147, 197, 149, 197, 151, 197, 153, 197, 155, 197, 157, 197, 159, 197, 161, 197, 163, 197, 165, 197, 167, 197, 169, 197, 171, 197, 173, 197, 175, 197, 177, 197, 179, 197, 181, 197, 183, 195, 191, 197, 186, 197, 188, 197, 190, 199, 185, 225, 186, 129, 225, 187, 179, 225, 186, 161, 225, 186, 185, 225, 187, 139, 225, 187, 141, 225, 187, 165, 225, 186, 165, 225, 186, 191, 225, 187, 145, 225, 186, 167, 225, 187, 129, 225, 187, 147, 225, 186, 173, 225, 187, 135, 225, 187, 153, 206, 177, 206, 178, 206, 179, 206, 180, 206, 181, 206, 182, 206, 183, 206, 184, 206, 185, 206, 186, 206, 187, 206, 188, 206, 189, 206, 190, 206, 191, 207, 128, 207, 129, 207, 131, 207, 132, 207, 133, 207, 134, 207, 135, 207, 136, 207, 137, 206, 172, 206, 173, 206, 174, 206, 175, 207, 140, 207, 141, 207, 142, 207, 138, 207, 139, 208, 176, 208, 177, 208, 178, 208, 179, 208, 180, 208, 181, 208, 182, 208, 183, 208, 184, 208, 185, 208, 186, 208, 187, 208, 188, 208, 189, 208, 190, 208, 191, 209, 128, 209, 129, 209, 130, 209, 131, 209, 132, 209, 133, 209, 134, 209, 135, 209, 136, 209, 137, 209, 138, 209, 139, 209, 140, 209, 141, 209, 142, 209, 143, 209, 144, 209, 145, 209, 146, 209, 147, 209, 148, 209, 149, 209, 150, 209, 151, 209, 152, 209, 153, 209, 154, 209, 155, 209, 156, 209, 157, 209, 158, 209, 159]⟩
def foldsPairs : List Mp := List.zipWith (fun u l => ⟨u, [l]⟩) (runesS upS) (runesS lowS)
/-- fullwidth letters -/
def foldsWide (k : Nat) : List Mp := (List.range k).map fun (i : Nat) => ⟨65313 + (i : Int), [65345 + (i : Int)]⟩
def tabFolds : List Mp := foldsHead ++ foldsPairs ++ foldsWide 26
set_option maxRecDepth 100000 in
theorem folds_same : (runesS upS).length = (runesS lowS).length ∧ (runesS upS).length ≤ 1000 ∧ upS.size ≤ 1000000 ∧ lowS.size ≤ 1000000 := by decide +kernel
set_option maxRecDepth 100000 in
theorem foldsPairs_len : foldsPairs.length = (runesS upS).length := by
  unfold foldsPairs
  rw [List.length_zipWith, ← folds_same.1, Nat.min_self]
set_option maxRecDepth 100000 in
theorem foldsPairs_next {j : Nat} (hj : j < (runesS upS).length) : foldsPairs.take (j + 1) = foldsPairs.take j ++ [⟨(runesS upS).getD j 0, [(runesS lowS).getD j 0]⟩] := by
  have hl := folds_same.1
  rw [List.take_add_one]
  congr 1
  unfold foldsPairs
  rw [List.getElem?_zipWith]
  simp only [List.getD_eq_getElem?_getD]
  rw [List.getElem?_eq_getElem (by omega), List.getElem?_eq_getElem (by omega)]
  rfl
theorem foldsWide_next (k : Nat) : foldsWide (k + 1) = foldsWide k ++ [⟨65313 + (k : Int), [65345 + (k : Int)]⟩] := by
  unfold foldsWide
  rw [List.range_succ, List.map_append]
  rfl
theorem foldsWide_len {M : List Mp} {m : Nat} (h : m = M.length) (k : Nat) : (M ++ foldsWide k).length = m + k := by
  unfold foldsWide
  rw [List.length_append, List.length_map, List.length_range, h]

end Go.Proofs.Ytildhebaikeknaa
