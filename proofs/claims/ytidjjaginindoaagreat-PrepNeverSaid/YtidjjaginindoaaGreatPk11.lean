/- Several texts in one: OrdOk, RowI, CodeTab. -/
import Derived.Test.YtidjjaginindoaaGreatPk7
import Derived.Test.YtidjjaginindoaaGreatPk2
import Derived.Test.YtidjjaginindoaaGreatPk3
import Derived.Test.YtidjjaginindoaaGreatPk10
import Derived.Test.YtidjjaginindoaaGreatPk1
/-! OrdOk -/
namespace Go.Proofs.YtidjjaginindoaaGreat
open Go.RowKit

def OPutOk : Prop := ∀ (v : Value) (s : List Int) (w : World), Sl .i64 w v s → s.length ≤ 1000000 → Calls Tryz.prog 78 #[v] w fun e w' => ∃ x, e = .returned x ∧ Own .i64 3 w.heap.size w' x (putO classS s) ∧ Below w.heap.size w w'
theorem class_rows : (tabClasses.all fun r => decide (0 ≤ r.v)) = true := by decide +kernel
theorem look_pos {l : List Rg} (h : (l.all fun r => decide (0 ≤ r.v)) = true) (c : Int) : 0 ≤ lookS l c := by
  induction l with
  | nil => exact Int.le_refl 0
  | cons r l ih =>
    rw [List.all_cons, Bool.and_eq_true, decide_eq_true_eq] at h
    unfold lookS
    split
    · exact h.1
    · exact ih h.2
theorem class_pos (c : Int) : 0 ≤ classS c := by
  unfold classS
  split
  · exact look_pos class_rows c
  · exact Int.le_refl 0
set_option maxRecDepth 1000000 in
theorem w9_put : putO classS [97, 769, 803] = [97, 803, 769] := by decide +kernel
set_option maxRecDepth 1000000 in
theorem w9_no : ordG classS [769, 803] = false := by decide +kernel
set_option maxRecDepth 1000000 in
theorem w9_yes : ordG classS [769, 97, 803] = true := by decide +kernel

end Go.Proofs.YtidjjaginindoaaGreat

/-! RowI -/
namespace Go.Proofs.YtidjjaginindoaaGreat
open Go.RowKit

/-- block g holds the numbers xs and then rest; all other blocks are as they were in w -/
def RowI (g : Nat) (rest : List Value) (w : World) (xs : List Int) (wr : World) : Prop :=
  Box 3 (xs.map (Value.int .i64) ++ rest) g wr ∧ w.grownBy wr (some g)
theorem RowI.of_own {base g n cap : Nat} {w : World} {xs : List Int} (h : Own .i64 3 base w (.slice (some ⟨g, 0, none⟩) n cap) xs) : ∃ rest, RowI g rest w xs w ∧ base ≤ g ∧ n = xs.length ∧ cap = n + rest.length ∧ cap ≤ maxLen := by
  obtain ⟨h1, h2⟩ := h
  rcases h2 with ⟨h2, _⟩ | ⟨g', cap', cur, hv, hb, hg, hn, hm, hs, ht⟩
  · cases h2
  · cases hv
    refine ⟨cur.toList.drop (xs.length * 1), ⟨?_, rfl, rfl, rfl, Nat.le_refl _, fun _ _ _ => rfl⟩, hb, rfl, ?_, hm⟩
    · show w.heap[g]? = _
      rw [hg, ← ht, List.take_append_drop]
    · have hd : (cur.toList.drop (xs.length * 1)).length = cur.size - xs.length * 1 := by rw [List.length_drop]; rfl
      rw [hd, hs]
      omega
theorem RowI.own {g : Nat} {rest : List Value} {w wr : World} {xs : List Int} (h : RowI g rest w xs wr) {base cap : Nat} (hb : base ≤ g) (hc : cap = xs.length + rest.length) (hm : cap ≤ maxLen) : Own .i64 3 base wr (.slice (some ⟨g, 0, none⟩) xs.length cap) xs := by
  refine ⟨by simp, .inr ⟨g, cap, _, rfl, hb, h.1, by omega, hm, ?_, ?_⟩⟩
  · simp [hc]
  · simp
theorem RowI.at {g : Nat} {rest : List Value} {w wr : World} {xs : List Int} (h : RowI g rest w xs wr) {i : Nat} (hi : i < xs.length) : wr.cell? ⟨g, i, none⟩ = some (.int .i64 (xs.getD i 0)) := by
  rw [h.1.cell i, List.getElem?_append_left (by simpa using hi), List.getElem?_map, List.getElem?_eq_getElem hi, List.getD_eq_getElem?_getD, List.getElem?_eq_getElem hi]
  rfl
theorem RowI.at0 {g : Nat} {rest : List Value} {w wr : World} {xs : List Int} (h : RowI g rest w xs wr) {i : Nat} (hi : i < xs.length) : wr.cell? ⟨g, 0 + i, none⟩ = some (.int .i64 (xs.getD i 0)) := by
  rw [Nat.zero_add]
  exact h.at hi
theorem RowI.ice {g : Nat} {rest : List Value} {w wr : World} {xs : List Int} (h : RowI g rest w xs wr) (i : Nat) : wr.frozen? ⟨g, i, none⟩ = false := h.1.ice i
theorem RowI.set {g : Nat} {rest : List Value} {w wr : World} {xs : List Int} (h : RowI g rest w xs wr) {i : Nat} (hi : i < xs.length) (x : Int) : RowI g rest w (xs.set i x) (wr.setCell ⟨g, i, none⟩ (.int .i64 x)) := by
  refine ⟨?_, grow_set1 h.2 i _⟩
  have := h.1.set i (.int .i64 x)
  rw [List.set_append_left _ _ (by simpa using hi), ← List.map_set] at this
  exact this
theorem RowI.drewN {g : Nat} {rest : List Value} {w wr : World} {xs : List Int} (h : RowI g rest w xs wr) (n : Nat) : RowI g rest w xs (wr.drewN n) :=
  ⟨h.1, ⟨h.2.os, h.2.tape, h.2.output, h.2.size, h.2.block⟩⟩
theorem RowI.drew {g : Nat} {rest : List Value} {w wr : World} {xs : List Int} (h : RowI g rest w xs wr) : RowI g rest w xs wr.drew := h.drewN 1
theorem RowI.lt {g : Nat} {rest : List Value} {w wr : World} {xs : List Int} (h : RowI g rest w xs wr) : g < wr.heap.size := h.1.lt
theorem RowI.below {g : Nat} {rest : List Value} {w wr w2 : World} {xs : List Int} (h : RowI g rest w xs wr) (hb : Below wr.heap.size wr w2) : RowI g rest w xs w2 :=
  ⟨h.1.below hb h.1.lt, ⟨hb.os.trans h.2.os, hb.tape.trans h.2.tape, hb.output.trans h.2.output, Nat.le_trans h.2.size hb.size, fun k hk hn => (hb.block k (Nat.lt_of_lt_of_le hk h.2.size)).trans (h.2.block k hk hn)⟩⟩
theorem RowI.swap {g : Nat} {rest : List Value} {w wr : World} {xs : List Int} (h : RowI g rest w xs wr) {i j : Nat} (hi : i < xs.length) (hj : j < xs.length) (x y : Int) : RowI g rest w ((xs.set i x).set j y) ((wr.setCell ⟨g, i, none⟩ (.int .i64 x)).setCell ⟨g, j, none⟩ (.int .i64 y)) :=
  (h.set hi x).set (by rw [List.length_set]; exact hj) y
/-- what lies below the row has not changed -/
theorem RowI.behind {g : Nat} {rest : List Value} {w wr : World} {xs : List Int} (h : RowI g rest w xs wr) {w0 : World} {B : Nat} (hb : Below B w0 w) (hg : B ≤ g) (hB : B ≤ w.heap.size) : Below B w0 wr :=
  hb.grown h.2 hB (fun k e => by cases e; exact hg)
end Go.Proofs.YtidjjaginindoaaGreat

/-! CodeTab -/
namespace Go.Proofs.YtidjjaginindoaaGreat

def codeB (b : Int) : List Rg := ⟨6, b, b⟩ :: (if b = 36 then [⟨102, b, 164⟩] else if b = 92 ∨ b = 94 ∨ b = 96 ∨ (123 ≤ b ∧ b ≠ 124) then [] else [⟨102, b, b⟩])
def codes1 (n : Nat) : List Rg := (List.range n).flatMap fun (i : Nat) => codeB (33 + (i : Int))
def codeR (set : Int) : Int → List Int → List Rg
  | _, [] => []
  | p, c :: l => (if c = 32 then [] else [⟨set, p, c⟩]) ++ codeR set (p + 1) l
def kana (n : Nat) (p c : Int) : List Rg := (List.range n).map fun (i : Nat) => ⟨87, p + (i : Int), c + (i : Int)⟩
abbrev str16_0 : ByteArray := ⟨#[194, 161, 194, 162, 194, 163, 36, 194, 165, 35, 194, 167, 194, 164, 32, 32, 194, 171, 32, 32, 32, 32, 194, 176, 194, 177, 194, 178, 194, 179, 195, 151, 194, 181, 194, 182, 194, 183, 195, 183, 32, 32, 194, 187, 194, 188, 194, 189, 194, 190, 194, 191]⟩
abbrev str16_1 : ByteArray := ⟨#[206, 169, 195, 134, 195, 144, 194, 170, 196, 166, 32, 196, 178, 196, 191, 197, 129, 195, 152, 197, 146, 194, 186, 195, 158, 197, 166, 197, 138, 197, 137, 196, 184, 195, 166, 196, 145, 195, 176, 196, 167, 196, 177, 196, 179, 197, 128, 197, 130, 195, 184, 197, 147, 195, 159, 195, 190, 197, 167, 197, 139]⟩
abbrev str16_2 : ByteArray := ⟨#[206, 145, 206, 146, 206, 147, 206, 148, 206, 149, 206, 150, 206, 151, 206, 152, 206, 153, 206, 154, 206, 155, 206, 156, 206, 157, 206, 158, 206, 159, 206, 160, 206, 161, 32, 206, 163, 206, 164, 206, 165, 206, 166, 206, 167, 206, 168, 206, 169, 206, 170, 206, 171, 206, 172, 206, 173, 206, 174, 206, 175, 206, 176, 206, 177, 206, 178, 206, 179, 206, 180, 206, 181, 206, 182, 206, 183, 206, 184, 206, 185, 206, 186, 206, 187, 206, 188, 206, 189, 206, 190, 206, 191, 207, 128, 207, 129, 207, 130, 207, 131, 207, 132, 207, 133, 207, 134, 207, 135, 207, 136, 207, 137, 207, 138, 207, 139, 207, 140, 207, 141, 207, 142]⟩
abbrev str16_3 : ByteArray := ⟨#[208, 129, 208, 130, 208, 131, 208, 132, 208, 133, 208, 134, 208, 135, 208, 136, 208, 137, 208, 138, 208, 139, 208, 140, 32, 208, 142, 208, 143, 208, 144, 208, 145, 208, 146, 208, 147, 208, 148, 208, 149, 208, 150, 208, 151, 208, 152, 208, 153, 208, 154, 208, 155, 208, 156, 208, 157, 208, 158, 208, 159, 208, 160, 208, 161, 208, 162, 208, 163, 208, 164, 208, 165, 208, 166, 208, 167, 208, 168, 208, 169, 208, 170, 208, 171, 208, 172, 208, 173, 208, 174, 208, 175, 208, 176, 208, 177, 208, 178, 208, 179, 208, 180, 208, 181, 208, 182, 208, 183, 208, 184, 208, 185, 208, 186, 208, 187, 208, 188, 208, 189, 208, 190, 208, 191, 209, 128, 209, 129, 209, 130, 209, 131, 209, 132, 209, 133, 209, 134, 209, 135, 209, 136, 209, 137, 209, 138, 209, 139, 209, 140, 209, 141, 209, 142, 209, 143, 32, 209, 145, 209, 146, 209, 147, 209, 148, 209, 149, 209, 150, 209, 151, 209, 152, 209, 153, 209, 154, 209, 155, 209, 156, 32, 209, 158]⟩
abbrev str16_4 : ByteArray := ⟨#[215, 144, 215, 145, 215, 146, 215, 147, 215, 148, 215, 149, 215, 150, 215, 151, 215, 152, 215, 153, 215, 154, 215, 155, 215, 156, 215, 157, 215, 158, 215, 159, 215, 160, 215, 161, 215, 162, 215, 163, 215, 164, 215, 165, 215, 166, 215, 167, 215, 168, 215, 169, 215, 170]⟩
def codesUpTo (k : Nat) : List Rg := codes1 94 ++ (if 0 < k then codeR 103 33 (runesS str16_0) else []) ++ (if 1 < k then codeR 103 96 (runesS str16_1) else []) ++ (if 2 < k then codeR 126 65 (runesS str16_2) else []) ++ (if 3 < k then codeR 144 33 (runesS str16_3) else []) ++ (if 4 < k then codeR 138 96 (runesS str16_4) else [])
def codes2 : List Rg := codes1 94 ++ codeR 103 33 (runesS str16_0) ++ codeR 103 96 (runesS str16_1) ++ codeR 126 65 (runesS str16_2) ++ codeR 144 33 (runesS str16_3) ++ codeR 138 96 (runesS str16_4)
def tabCodes : List Rg := codes2 ++ kana 83 9249 12353 ++ kana 86 9505 12449
def tabSets : List Int := [102, 6, 126, 144, 138, 87]
def tabAccents : List Rg := [⟨65, 768, 96⟩, ⟨66, 769, 180⟩, ⟨67, 770, 94⟩, ⟨68, 771, 126⟩, ⟨69, 772, 175⟩, ⟨70, 774, 728⟩, ⟨71, 775, 729⟩, ⟨72, 776, 168⟩, ⟨74, 778, 730⟩, ⟨75, 807, 184⟩, ⟨77, 779, 733⟩, ⟨78, 808, 731⟩, ⟨79, 780, 711⟩]
def finalS (s : Int) : Int := if s = 6 then 66 else if s = 87 then 66 else if s = 102 then 117 else if s = 103 then 118 else if s = 126 then 70 else if s = 138 then 72 else if s = 144 then 76 else 0
theorem codeR_app (set : Int) : ∀ (p : Int) (l m : List Int), codeR set p (l ++ m) = codeR set p l ++ codeR set (p + l.length) m
  | p, [], m => by simp [codeR]
  | p, c :: l, m => by
    rw [List.cons_append, codeR, codeR, codeR_app set (p + 1) l m, List.append_assoc, List.length_cons]
    rw [show p + 1 + (l.length : Int) = p + ((l.length + 1 : Nat) : Int) by omega]
theorem codeR_next {set p : Int} {l : List Int} {j : Nat} (hj : j < l.length) : codeR set p (l.take (j + 1)) = codeR set p (l.take j) ++ (if l.getD j 0 = 32 then [] else [⟨set, p + (j : Int), l.getD j 0⟩]) := by
  have e : l[j]? = some (l.getD j 0) := by rw [List.getD_eq_getElem?_getD, List.getElem?_eq_getElem hj]; rfl
  rw [List.take_add_one, e, codeR_app, List.length_take, Nat.min_eq_left (by omega)]
  simp [codeR]
theorem codeR_len (set : Int) : ∀ (p : Int) (l : List Int), (codeR set p l).length ≤ l.length
  | _, [] => Nat.le_refl _
  | p, c :: l => by
    have := codeR_len set (p + 1) l
    rw [codeR, List.length_append, List.length_cons]
    by_cases h : c = 32
    · rw [if_pos h]; simp; omega
    · rw [if_neg h]; simp; omega
theorem runesAt_len (s : ByteArray) : ∀ f p, (runesAt s f p).length ≤ f
  | 0, _ => Nat.le_refl _
  | f + 1, p => by
    unfold runesAt
    by_cases h : p < s.size
    · rw [if_pos h, List.length_cons]; have := runesAt_len s f (p + (Utf8.decode s p).2); omega
    · rw [if_neg h]; simp
theorem runesS_len (s : ByteArray) : (runesS s).length ≤ s.size := runesAt_len s _ _
theorem codes1_next (n : Nat) : codes1 (n + 1) = codes1 n ++ codeB (33 + (n : Int)) := by
  unfold codes1
  rw [List.range_succ, List.flatMap_append]
  simp
theorem codeB_len (b : Int) : (codeB b).length ≤ 2 := by
  unfold codeB
  by_cases h : b = 36
  · rw [if_pos h]; simp
  · rw [if_neg h]
    by_cases h2 : b = 92 ∨ b = 94 ∨ b = 96 ∨ (123 ≤ b ∧ b ≠ 124)
    · rw [if_pos h2]; simp
    · rw [if_neg h2]; simp
theorem codes1_len : ∀ n, (codes1 n).length ≤ 2 * n
  | 0 => by simp [codes1]
  | n + 1 => by rw [codes1_next, List.length_append]; have := codes1_len n; have := codeB_len (33 + (n : Int)); omega
theorem kana_next (n : Nat) (p c : Int) : kana (n + 1) p c = kana n p c ++ [⟨87, p + (n : Int), c + (n : Int)⟩] := by
  unfold kana
  rw [List.range_succ, List.map_append]
  rfl
theorem kana_len (n : Nat) (p c : Int) : (kana n p c).length = n := by unfold kana; simp
end Go.Proofs.YtidjjaginindoaaGreat
