/- Several texts in one: Sh17r, Sh17b, Sh17c, Sh17d, Sh17e, Sh17f, Sh17g, Sh17h. -/
import Derived.Test.YtobicndpkojgiaaPk28
import Derived.Test.YtobicndpkojgiaaPk29
import Derived.Test.YtobicndpkojgiaaPk30
import Derived.Test.YtobicndpkojgiaaPk31
import Derived.Test.YtobicndpkojgiaaPk15
/-! Sh17r -/
namespace Go.Proofs.Ytobicndpkojgiaa
open Go.RowKit

theorem shChar (HW : WideE) (v : Value) (c : Int) (r : List Int) (l rt : Int) (w : World) (hs : Sl .u8 w v (c :: r)) (hu : U8 (c :: r)) :
    Calls Try.prog 68 #[v, .int .i64 l, .int .i64 rt] w fun e w' => e = PlE (plS (if 128 ≤ c then rt else l) (c :: r)) ∧ Below w.heap.size w w' := by
  by_cases hg : 128 ≤ c
  · rw [if_pos hg]
    exact shCharR HW v c r l rt w hs hu hg
  · rw [if_neg hg]
    exact shCharL HW v c r l rt w hs hu hg

theorem shControls (v : Value) (xs : List Int) (z : Int) (w : World) (hs : Sl .u8 w v xs) (hl : 2 ≤ xs.length) :
    Calls Try.prog 79 #[v, .int .u8 z] w fun e w' => e = (if xs.length = 2 then .returned (.tuple #[.int .i64 0, .int .i64 2]) else if xs.getD 2 0 = z then .returned (.tuple #[.int .i64 3, .int .i64 0]) else .returned (.tuple #[.int .i64 0, .int .i64 11])) ∧ w = w' := by
  obtain ⟨a1, cap1, rfl, q1, -, h1⟩ := hs
  obtain ⟨n, hn⟩ : ∃ n, n = xs.length := ⟨_, rfl⟩
  rw [← hn] at hl q1 h1 ⊢
  by_cases h2 : n = 2
  · subst h2
    rw [if_pos rfl]
    clear h1 hn
    go_enter Try.func79, Try.ntmps79
    go_wp2
    go_ret2
    exact ⟨rfl, rfl⟩
  · rw [if_neg h2]
    have e2 : ((n : Int) == 2) = false := by simp; omega
    rcases h1 with h1 | ⟨b1, o1, rfl, hb1, hc⟩
    · omega
    have d2 := hc 2 (by omega)
    have h3 : 2 < n := by omega
    generalize xs.getD 2 0 = x at d2 ⊢
    by_cases h4 : x = z
    · rw [if_pos h4]
      have e4 : (x != z) = false := by simp [h4]
      clear hc hb1 hn h4 h2
      go_enter Try.func79, Try.ntmps79
      go_wp2
      go_ret2
      exact ⟨rfl, rfl⟩
    · rw [if_neg h4]
      have e4 : (x != z) = true := by simp [h4]
      clear hc hb1 hn h4 h2
      go_enter Try.func79, Try.ntmps79
      go_wp2
      go_ret2
      exact ⟨rfl, rfl⟩
end Go.Proofs.Ytobicndpkojgiaa

/-! Sh17b -/
namespace Go.Proofs.Ytobicndpkojgiaa
open Go.RowKit

theorem grow_below {w w1 : World} (h : Below w.heap.size w w1) (r : Option Nat) : w.grownBy w1 r := ⟨h.os, h.tape, h.output, h.size, fun i hi _ => h.block i hi⟩
/-- a store into a block that is newer than a -/
theorem grow_far {a w : World} {r : Option Nat} (h : a.grownBy w r) {B : Nat} (hB : a.heap.size ≤ B) (j : Nat) (v : Value) : a.grownBy (w.setCell ⟨B, j, none⟩ v) r :=
  ⟨h.os, h.tape, h.output, Nat.le_trans h.size (by simp [World.setCell]), fun i hi hn => (Below.heap_setCell _ _ _ _ (fun e => by simp only at e; omega)).trans (h.block i hi hn)⟩

/-- the state of a reader lies in block B -/
structure StI (B : Nat) (st : Rd) (w : World) : Prop where
  box : Box 86 [.int .i64 (st.g.getD 0 0), .int .i64 (st.g.getD 1 0), .int .i64 (st.g.getD 2 0), .int .i64 (st.g.getD 3 0), .int .i64 (st.left : Int), .int .i64 (st.right : Int)] B w
  len : st.g.length = 4
  left : st.left < 4
  right : st.right < 4
theorem StI.below {B : Nat} {st : Rd} {w w' : World} (h : StI B st w) (hb : Below w.heap.size w w') : StI B st w' := ⟨h.box.below hb h.box.lt, h.len, h.left, h.right⟩
theorem StI.grown {B : Nat} {st : Rd} {w w' : World} (h : StI B st w) {r : Option Nat} (hg : w.grownBy w' r) (hr : some B ≠ r) : StI B st w' := ⟨(hg.block B h.box.lt hr).trans h.box, h.len, h.left, h.right⟩
theorem StI.far {B B' : Nat} {st : Rd} {w : World} (h : StI B st w) (hn : B ≠ B') (j : Nat) (v : Value) : StI B st (w.setCell ⟨B', j, none⟩ v) := ⟨(Below.heap_setCell _ _ _ _ (fun e => hn e)).trans h.box, h.len, h.left, h.right⟩
theorem StI.cell {B : Nat} {st : Rd} {w : World} (h : StI B st w) {i : Nat} (hi : i < 4) : w.cell? ⟨B, i, none⟩ = some (.int .i64 (st.g.getD i 0)) := by
  rw [h.box.cell i]
  match i, hi with
  | 0, _ => rfl
  | 1, _ => rfl
  | 2, _ => rfl
  | 3, _ => rfl
theorem StI.put {B : Nat} {st : Rd} {w : World} (h : StI B st w) {i : Nat} (hi : i < 4) (x : Int) : StI B ⟨st.g.set i x, st.left, st.right⟩ (w.setCell ⟨B, i, none⟩ (.int .i64 x)) := by
  have hb := h.box.set i (.int .i64 x)
  obtain ⟨g, l, r⟩ := st
  have hl : g.length = 4 := h.len
  match g, hl with
  | [p, q, s, t], _ =>
    refine ⟨?_, by simp, h.left, h.right⟩
    match i, hi with
    | 0, _ => exact hb
    | 1, _ => exact hb
    | 2, _ => exact hb
    | 3, _ => exact hb
theorem StI.putLeft {B : Nat} {st : Rd} {w : World} (h : StI B st w) {k : Nat} (hk : k < 4) : StI B ⟨st.g, k, st.right⟩ (w.setCell ⟨B, 4, none⟩ (.int .i64 (k : Int))) := ⟨h.box.set 4 (.int .i64 (k : Int)), h.len, hk, h.right⟩
theorem StI.putRight {B : Nat} {st : Rd} {w : World} (h : StI B st w) {k : Nat} (hk : k < 4) : StI B ⟨st.g, st.left, k⟩ (w.setCell ⟨B, 5, none⟩ (.int .i64 (k : Int))) := ⟨h.box.set 5 (.int .i64 (k : Int)), h.len, h.left, hk⟩

/-- what designates: the state then, or an error -/
def dsS (st : Rd) (wide : Bool) : List Int → Rd ⊕ Int
  | [] => .inr 2
  | h :: q => if 40 ≤ h ∧ h ≤ 43 then
      (match q with
      | [] => .inr 2
      | f :: _ => if (byFinS f wide).2 then .inl ⟨st.g.set (h - 40).toNat (byFinS f wide).1, st.left, st.right⟩ else .inr 12)
    else .inr 11
theorem dsS_bad {st : Rd} {wide : Bool} {h : Int} {q : List Int} (hh : ¬ (40 ≤ h ∧ h ≤ 43)) : dsS st wide (h :: q) = .inr 11 := by simp only [dsS, if_neg hh]
theorem dsS_short {st : Rd} {wide : Bool} {h : Int} (hh : 40 ≤ h ∧ h ≤ 43) : dsS st wide [h] = .inr 2 := by simp only [dsS, if_pos hh]
theorem dsS_two {st : Rd} {wide : Bool} {h f : Int} {q : List Int} (hh : 40 ≤ h ∧ h ≤ 43) : dsS st wide (h :: f :: q) = if (byFinS f wide).2 then .inl ⟨st.g.set (h - 40).toNat (byFinS f wide).1, st.left, st.right⟩ else .inr 12 := by simp only [dsS, if_pos hh]
/-- how it is told: the number of bytes, no error, the state then; or none, the error -/
def EsE (B j : Nat) (w : World) : ((Rd × Nat) ⊕ Int) → Ending → World → Prop
  | .inl (s, n), e, w' => e = .returned (.tuple #[.int .i64 ((n + j : Nat) : Int), .int .i64 0]) ∧ StI B s w' ∧ w.grownBy w' (some B)
  | .inr x, e, w' => e = .returned (.tuple #[.int .i64 0, .int .i64 x]) ∧ w.grownBy w' (some B)
def dsN (k : Nat) : (Rd ⊕ Int) → ((Rd × Nat) ⊕ Int)
  | .inl s => .inl (s, k)
  | .inr x => .inr x
theorem dropc {xs : List Int} {k : Nat} (h : k < xs.length) : xs.drop k = xs.getD k 0 :: xs.drop (k + 1) := by
  rw [List.drop_eq_getElem_cons h, List.getD_eq_getElem?_getD, List.getElem?_eq_getElem h]
  rfl

set_option maxHeartbeats 4000000 in
set_option maxRecDepth 10000 in
theorem shDesig (HF : ByFinE) (B : Nat) (st : Rd) (v : Value) (xs : List Int) (k : Nat) (wide : Bool) (w : World) (hst : StI B st w) (hs : Sl .u8 w v xs) (hu : U8 xs) (hk : k ≤ xs.length) (hl : xs.length ≤ 100000) :
    Calls Try.prog 80 #[.pointer (some ⟨B, 0, none⟩), v, .int .i64 (k : Int), .bool wide] w fun e w' => EsE B 0 w (dsN (k + 2) (dsS st wide (xs.drop k))) e w' := by
  obtain ⟨a1, cap1, rfl, q1, -, h1⟩ := hs
  obtain ⟨n, hn⟩ : ∃ n, n = xs.length := ⟨_, rfl⟩
  have HN := hid hn
  have HST := hid hst
  have HW0 := hid (grow_below (Below.refl w.heap.size w) (some B))
  rw [← hn] at q1 hk hl h1 ⊢
  by_cases e0 : k = n
  · subst e0
    rw [List.drop_eq_nil_of_le (by omega)]
    have e1 : ((k : Int) == (k : Int)) = true := by simp
    clear h1 hn hu hst
    go_enter Try.func80, Try.ntmps80
    go_wp2
    go_ret2
    exact ⟨rfl, HW0.out⟩
  · have e1 : ((n : Int) == (k : Int)) = false := by simp; omega
    have hkn : k < n := by omega
    rw [dropc (by omega)]
    rcases h1 with h1 | ⟨b1, o1, rfl, hb1, hc⟩
    · omega
    have d0 := hc k (by omega)
    obtain ⟨u0, u1⟩ : 0 ≤ xs.getD k 0 ∧ xs.getD k 0 ≤ 255 := hu _ (by rw [List.getD_eq_getElem?_getD, List.getElem?_eq_getElem (by omega)]; exact List.getElem_mem _)
    have HC := hid (fun h => hc (k + 1) h)
    have HU := hid (fun (h : k + 1 < xs.length) => (show 0 ≤ xs.getD (k + 1) 0 ∧ xs.getD (k + 1) 0 ≤ 255 from hu _ (by rw [List.getD_eq_getElem?_getD, List.getElem?_eq_getElem h]; exact List.getElem_mem _)))
    clear hc
    generalize xs.getD k 0 = h at d0 u0 u1 ⊢
    by_cases g1 : 40 ≤ h
    · by_cases g2 : h ≤ 43
      · by_cases e2 : k + 1 = n
        · have e3 : ((n : Int) == (k : Int) + 1) = true := by simp; omega
          have HR := hid (show dsS st wide (h :: xs.drop (k + 1)) = .inr 2 from by rw [List.drop_eq_nil_of_le (by omega)]; exact dsS_short ⟨g1, g2⟩)
          clear hn hu hst hb1 e2
          go_enter Try.func80, Try.ntmps80
          go_wp2
          go_ret2
          rw [HR.out]
          exact ⟨rfl, HW0.out⟩
        · have e3 : ((n : Int) == (k : Int) + 1) = false := by simp; omega
          have hk1 : k + 1 < n := by omega
          have d1 := HC.out (by omega)
          obtain ⟨u2, u3⟩ := HU.out (by omega)
          have HR := hid (show dsS st wide (h :: xs.drop (k + 1)) = if (byFinS (xs.getD (k + 1) 0) wide).2 then .inl ⟨st.g.set (h - 40).toNat (byFinS (xs.getD (k + 1) 0) wide).1, st.left, st.right⟩ else .inr 12 from by
            rw [dropc (show k + 1 < xs.length by omega)]; exact dsS_two ⟨g1, g2⟩)
          have HFF := hid (fun w => HF (xs.getD (k + 1) 0) wide w)
          generalize xs.getD (k + 1) 0 = f at d1 u2 u3 HFF HR
          generalize byFinS f wide = bf at HFF HR
          obtain ⟨sn, kn⟩ := bf
          have hh : h = 40 ∨ h = 41 ∨ h = 42 ∨ h = 43 := by omega
          clear hn hu hst hb1 e2 e0 u0 u1 g1 g2
          simp only at HFF HR
          cases kn with
          | false =>
            rcases hh with rfl | rfl | rfl | rfl <;>
            · go_enter Try.func80, Try.ntmps80
              go_wp2_with (go_at_call 85; refine (HFF.out _).mono ?_; rintro e w1 ⟨rfl, hb1⟩; have HB1 := hid hb1; clear hb1)
              go_ret2
              rw [HR.out]
              exact ⟨rfl, grow_below HB1.out _⟩
          | true =>
            rcases hh with rfl | rfl | rfl | rfl
            · go_enter Try.func80, Try.ntmps80
              go_wp2_with (go_at_call 85; refine (HFF.out _).mono ?_; rintro e w1 ⟨rfl, hb1⟩; have HB1 := hid hb1; have HS1 := hid (HST.out.below hb1); have y0 := HS1.out.cell (i := 0) (by decide); have f0 := HS1.out.box.ice 0; have d2 := (hb1.cell (World.block_lt_of_cell? _ _ d0)).trans d0; clear hb1)
              go_region
              go_wp2
              go_ret2
              rw [HR.out]
              exact ⟨rfl, (HS1.out.put (i := 0) (by decide) sn).below (Below.refl _ _).drew, grow_trans (grow_set1 (grow_below HB1.out _) _ _) (grow_below (Below.refl _ _).drew _)⟩
            · go_enter Try.func80, Try.ntmps80
              go_wp2_with (go_at_call 85; refine (HFF.out _).mono ?_; rintro e w1 ⟨rfl, hb1⟩; have HB1 := hid hb1; have HS1 := hid (HST.out.below hb1); have y0 := HS1.out.cell (i := 1) (by decide); have f0 := HS1.out.box.ice 1; have d2 := (hb1.cell (World.block_lt_of_cell? _ _ d0)).trans d0; clear hb1)
              go_region
              go_wp2
              go_ret2
              rw [HR.out]
              exact ⟨rfl, (HS1.out.put (i := 1) (by decide) sn).below (Below.refl _ _).drew, grow_trans (grow_set1 (grow_below HB1.out _) _ _) (grow_below (Below.refl _ _).drew _)⟩
            · go_enter Try.func80, Try.ntmps80
              go_wp2_with (go_at_call 85; refine (HFF.out _).mono ?_; rintro e w1 ⟨rfl, hb1⟩; have HB1 := hid hb1; have HS1 := hid (HST.out.below hb1); have y0 := HS1.out.cell (i := 2) (by decide); have f0 := HS1.out.box.ice 2; have d2 := (hb1.cell (World.block_lt_of_cell? _ _ d0)).trans d0; clear hb1)
              go_region
              go_wp2
              go_ret2
              rw [HR.out]
              exact ⟨rfl, (HS1.out.put (i := 2) (by decide) sn).below (Below.refl _ _).drew, grow_trans (grow_set1 (grow_below HB1.out _) _ _) (grow_below (Below.refl _ _).drew _)⟩
            · go_enter Try.func80, Try.ntmps80
              go_wp2_with (go_at_call 85; refine (HFF.out _).mono ?_; rintro e w1 ⟨rfl, hb1⟩; have HB1 := hid hb1; have HS1 := hid (HST.out.below hb1); have y0 := HS1.out.cell (i := 3) (by decide); have f0 := HS1.out.box.ice 3; have d2 := (hb1.cell (World.block_lt_of_cell? _ _ d0)).trans d0; clear hb1)
              go_region
              go_wp2
              go_ret2
              rw [HR.out]
              exact ⟨rfl, (HS1.out.put (i := 3) (by decide) sn).below (Below.refl _ _).drew, grow_trans (grow_set1 (grow_below HB1.out _) _ _) (grow_below (Below.refl _ _).drew _)⟩
      · have HR := hid (show dsS st wide (h :: xs.drop (k + 1)) = .inr 11 from dsS_bad (fun h => g2 h.2))
        clear hn hu hst hb1
        go_enter Try.func80, Try.ntmps80
        go_wp2
        go_ret2
        rw [HR.out]
        exact ⟨rfl, HW0.out⟩
    · have HR := hid (show dsS st wide (h :: xs.drop (k + 1)) = .inr 11 from dsS_bad (fun h => g1 h.1))
      clear hn hu hst hb1
      go_enter Try.func80, Try.ntmps80
      go_wp2
      go_ret2
      rw [HR.out]
      exact ⟨rfl, HW0.out⟩
end Go.Proofs.Ytobicndpkojgiaa

/-! Sh17c -/
namespace Go.Proofs.Ytobicndpkojgiaa
open Go.RowKit

theorem es_other {st : Rd} {c : Int} {r : List Int} (h36 : c ≠ 36) (h33 : c ≠ 33) (h34 : c ≠ 34) (h110 : c ≠ 110) (h111 : c ≠ 111) (h124 : c ≠ 124) (h125 : c ≠ 125) (h126 : c ≠ 126) : esS st (c :: r) = dsN 2 (dsS st false (c :: r)) := by
  have n1 : ¬ (c = 33 ∨ c = 34) := by omega
  have n2 : ¬ (c = 110 ∨ c = 111) := by omega
  have n3 : ¬ (124 ≤ c ∧ c ≤ 126) := by omega
  by_cases h : 40 ≤ c ∧ c ≤ 43
  · cases r with
    | nil => simp only [esS, dsS, if_pos h, dsN]
    | cons f q => simp only [esS, dsS, if_pos h]; split <;> rfl
  · simp only [esS, dsS, if_neg h, if_neg h36, if_neg n1, if_neg n2, if_neg n3, dsN]
theorem es_36 {st : Rd} {r : List Int} : esS st (36 :: r) = dsN 3 (dsS st true r) := by
  have n1 : ¬ (40 ≤ (36 : Int) ∧ (36 : Int) ≤ 43) := by omega
  cases r with
  | nil => simp only [esS, dsS, if_neg n1, if_true, dsN]
  | cons h q =>
    by_cases hh : 40 ≤ h ∧ h ≤ 43
    · cases q with
      | nil => simp only [esS, dsS, if_neg n1, if_true, if_pos hh, dsN]
      | cons f q => simp only [esS, dsS, if_neg n1, if_true, if_pos hh]; split <;> rfl
    · simp only [esS, dsS, if_neg n1, if_true, if_neg hh, dsN]

set_option maxHeartbeats 4000000 in
set_option maxRecDepth 10000 in
theorem shSequence (HF : ByFinE) (B : Nat) (st : Rd) (v : Value) (c0 : Int) (r : List Int) (w : World) (hst : StI B st w) (hs : Sl .u8 w v (c0 :: r)) (hu : U8 (c0 :: r)) (hl : (c0 :: r).length ≤ 100000) :
    Calls Try.prog 67 #[.pointer (some ⟨B, 0, none⟩), v] w fun e w' => EsE B 1 w (esS st r) e w' := by
  have HST := hid hst
  have HW0 := hid (grow_below (Below.refl w.heap.size w) (some B))
  have HD := hid (fun (k : Nat) wide (hk : k ≤ (c0 :: r).length) => shDesig HF B st v (c0 :: r) k wide w hst hs hu hk hl)
  have HCT := hid (fun (z : Int) (h : 2 ≤ (c0 :: r).length) => shControls v (c0 :: r) z w hs h)
  obtain ⟨a1, cap1, rfl, q1, -, h1⟩ := hs
  rcases h1 with h1 | ⟨b1, o1, rfl, hb1, hc⟩
  · simp at q1; omega
  match r, hu, hl, hc, HD, HCT, q1 with
  | [], hu, hl, hc, HD, HCT, q1 =>
    clear hc hu hb1 hst HD HCT
    simp only [List.length_singleton] at *
    go_enter Try.func67, Try.ntmps67
    go_wp2
    go_ret2
    exact ⟨rfl, HW0.out⟩
  | c :: r', hu, hl, hc, HD, HCT, q1 =>
    obtain ⟨u0, u1⟩ := hu c (by simp)
    have d1 := hc 1 (by simp)
    simp only [List.getD_cons_succ, List.getD_cons_zero] at d1
    have D1 := hid (HD.out 1 false (by simp))
    have D2 := hid (HD.out 2 true (by simp))
    simp only [List.drop_succ_cons, List.drop_zero] at D1 D2
    have C1 := hid (fun z => HCT.out z (by simp))
    simp only [List.getD_cons_succ, List.length_cons] at C1
    obtain ⟨n, hn⟩ : ∃ n, n = (c0 :: c :: r').length := ⟨_, rfl⟩
    have hn2 : r'.length + 1 + 1 = n := by rw [hn]; simp
    rw [← hn] at D1 D2 q1 hl ⊢
    rw [hn2] at C1
    have e1 : ((n : Int) == 1) = false := by simp; omega
    have hn3 : 1 < n := by omega
    clear hc hu hb1 hst HD HCT hn
    by_cases c33 : c = 33
    · subst c33
      clear D1 D2
      cases r' with
      | nil =>
        obtain rfl : n = 2 := by simpa using hn2.symm
        have HR := hid (show esS st [33] = .inr 2 from by unfold esS; rfl)
        have HC1 := hid (C1.out 69)
        rw [if_pos rfl] at HC1
        clear C1 hn2
        go_enter Try.func67, Try.ntmps67
        go_wp2_with (go_at_call 79; refine (HC1.out).mono ?_; rintro e w1 ⟨rfl, rfl⟩)
        go_ret2
        rw [HR.out]
        exact ⟨rfl, HW0.out⟩
      | cons h q =>
        have hne : ¬ n = 2 := by rw [← hn2]; simp
        have HC1 := hid (C1.out 69)
        rw [if_neg hne] at HC1
        simp only [List.getD_cons_zero] at HC1
        by_cases hh : h = 69
        · subst hh
          have HR := hid (show esS st (33 :: 69 :: q) = .inl (st, 2) from by unfold esS; rfl)
          rw [if_pos rfl] at HC1
          clear C1 hn2 hne
          go_enter Try.func67, Try.ntmps67
          go_wp2_with (go_at_call 79; refine (HC1.out).mono ?_; rintro e w1 ⟨rfl, rfl⟩)
          go_ret2
          rw [HR.out]
          exact ⟨rfl, HST.out, HW0.out⟩
        · have HR := hid (show esS st (33 :: h :: q) = .inr 11 from by unfold esS; simp [hh])
          rw [if_neg hh] at HC1
          clear C1 hn2 hne hh
          go_enter Try.func67, Try.ntmps67
          go_wp2_with (go_at_call 79; refine (HC1.out).mono ?_; rintro e w1 ⟨rfl, rfl⟩)
          go_ret2
          rw [HR.out]
          exact ⟨rfl, HW0.out⟩
    by_cases c34 : c = 34
    · subst c34
      clear D1 D2
      cases r' with
      | nil =>
        obtain rfl : n = 2 := by simpa using hn2.symm
        have HR := hid (show esS st [34] = .inr 2 from by unfold esS; rfl)
        have HC1 := hid (C1.out 72)
        rw [if_pos rfl] at HC1
        clear C1 hn2
        go_enter Try.func67, Try.ntmps67
        go_wp2_with (go_at_call 79; refine (HC1.out).mono ?_; rintro e w1 ⟨rfl, rfl⟩)
        go_ret2
        rw [HR.out]
        exact ⟨rfl, HW0.out⟩
      | cons h q =>
        have hne : ¬ n = 2 := by rw [← hn2]; simp
        have HC1 := hid (C1.out 72)
        rw [if_neg hne] at HC1
        simp only [List.getD_cons_zero] at HC1
        by_cases hh : h = 72
        · subst hh
          have HR := hid (show esS st (34 :: 72 :: q) = .inl (st, 2) from by unfold esS; rfl)
          rw [if_pos rfl] at HC1
          clear C1 hn2 hne
          go_enter Try.func67, Try.ntmps67
          go_wp2_with (go_at_call 79; refine (HC1.out).mono ?_; rintro e w1 ⟨rfl, rfl⟩)
          go_ret2
          rw [HR.out]
          exact ⟨rfl, HST.out, HW0.out⟩
        · have HR := hid (show esS st (34 :: h :: q) = .inr 11 from by unfold esS; simp [hh])
          rw [if_neg hh] at HC1
          clear C1 hn2 hne hh
          go_enter Try.func67, Try.ntmps67
          go_wp2_with (go_at_call 79; refine (HC1.out).mono ?_; rintro e w1 ⟨rfl, rfl⟩)
          go_ret2
          rw [HR.out]
          exact ⟨rfl, HW0.out⟩
    by_cases c36 : c = 36
    · subst c36
      have HR := hid (show esS st (36 :: r') = _ from es_36)
      generalize dsS st true r' = R at D2 HR
      cases R with
      | inl s =>
        simp only [dsN, EsE] at D2 HR
        clear D1 C1 hn2
        go_enter Try.func67, Try.ntmps67
        go_wp2_with (go_at_call 80; refine (D2.out).mono ?_; rintro e w1 ⟨rfl, hs1, hg1⟩; have HS1 := hid hs1; have HG1 := hid hg1; clear hs1 hg1)
        go_ret2
        rw [HR.out]
        exact ⟨rfl, HS1.out, HG1.out⟩
      | inr x =>
        simp only [dsN, EsE] at D2 HR
        clear D1 C1 hn2
        go_enter Try.func67, Try.ntmps67
        go_wp2_with (go_at_call 80; refine (D2.out).mono ?_; rintro e w1 ⟨rfl, hg1⟩; have HG1 := hid hg1; clear hg1)
        go_ret2
        rw [HR.out]
        exact ⟨rfl, HG1.out⟩
    by_cases c110 : c = 110
    · subst c110
      have HR := hid (show esS st (110 :: r') = .inl (⟨st.g, 2, st.right⟩, 1) from by unfold esS; rfl)
      have f0 := HST.out.box.ice 4
      have y0 := HST.out.box.cell 4
      simp only [List.getElem?_cons_zero, List.getElem?_cons_succ] at y0
      clear C1 D1 D2 hn2
      go_enter Try.func67, Try.ntmps67
      go_wp2
      go_ret2
      rw [HR.out]
      exact ⟨rfl, HST.out.putLeft (k := 2) (by decide), grow_set1 HW0.out _ _⟩
    by_cases c111 : c = 111
    · subst c111
      have HR := hid (show esS st (111 :: r') = .inl (⟨st.g, 3, st.right⟩, 1) from by unfold esS; rfl)
      have f0 := HST.out.box.ice 4
      have y0 := HST.out.box.cell 4
      simp only [List.getElem?_cons_zero, List.getElem?_cons_succ] at y0
      clear C1 D1 D2 hn2
      go_enter Try.func67, Try.ntmps67
      go_wp2
      go_ret2
      rw [HR.out]
      exact ⟨rfl, HST.out.putLeft (k := 3) (by decide), grow_set1 HW0.out _ _⟩
    by_cases c126 : c = 126
    · subst c126
      have HR := hid (show esS st (126 :: r') = .inl (⟨st.g, st.left, 1⟩, 1) from by unfold esS; rfl)
      have f0 := HST.out.box.ice 5
      have y0 := HST.out.box.cell 5
      simp only [List.getElem?_cons_zero, List.getElem?_cons_succ] at y0
      clear C1 D1 D2 hn2
      go_enter Try.func67, Try.ntmps67
      go_wp2
      go_ret2
      rw [HR.out]
      exact ⟨rfl, HST.out.putRight (k := 1) (by decide), grow_set1 HW0.out _ _⟩
    by_cases c125 : c = 125
    · subst c125
      have HR := hid (show esS st (125 :: r') = .inl (⟨st.g, st.left, 2⟩, 1) from by unfold esS; rfl)
      have f0 := HST.out.box.ice 5
      have y0 := HST.out.box.cell 5
      simp only [List.getElem?_cons_zero, List.getElem?_cons_succ] at y0
      clear C1 D1 D2 hn2
      go_enter Try.func67, Try.ntmps67
      go_wp2
      go_ret2
      rw [HR.out]
      exact ⟨rfl, HST.out.putRight (k := 2) (by decide), grow_set1 HW0.out _ _⟩
    by_cases c124 : c = 124
    · subst c124
      have HR := hid (show esS st (124 :: r') = .inl (⟨st.g, st.left, 3⟩, 1) from by unfold esS; rfl)
      have f0 := HST.out.box.ice 5
      have y0 := HST.out.box.cell 5
      simp only [List.getElem?_cons_zero, List.getElem?_cons_succ] at y0
      clear C1 D1 D2 hn2
      go_enter Try.func67, Try.ntmps67
      go_wp2
      go_ret2
      rw [HR.out]
      exact ⟨rfl, HST.out.putRight (k := 3) (by decide), grow_set1 HW0.out _ _⟩
    have t33 : (c == 33) = false := by simp [c33]
    have t34 : (c == 34) = false := by simp [c34]
    have t36 : (c == 36) = false := by simp [c36]
    have t110 : (c == 110) = false := by simp [c110]
    have t111 : (c == 111) = false := by simp [c111]
    have t126 : (c == 126) = false := by simp [c126]
    have t125 : (c == 125) = false := by simp [c125]
    have t124 : (c == 124) = false := by simp [c124]
    have HR := hid (show esS st (c :: r') = _ from es_other c36 c33 c34 c110 c111 c124 c125 c126)
    generalize dsS st false (c :: r') = R at D1 HR
    cases R with
    | inl s =>
      simp only [dsN, EsE] at D1 HR
      clear D2 C1 hn2
      go_enter Try.func67, Try.ntmps67
      go_wp2_with (go_at_call 80; refine (D1.out).mono ?_; rintro e w1 ⟨rfl, hs1, hg1⟩; have HS1 := hid hs1; have HG1 := hid hg1; clear hs1 hg1)
      go_ret2
      rw [HR.out]
      exact ⟨rfl, HS1.out, HG1.out⟩
    | inr x =>
      simp only [dsN, EsE] at D1 HR
      clear D2 C1 hn2
      go_enter Try.func67, Try.ntmps67
      go_wp2_with (go_at_call 80; refine (D1.out).mono ?_; rintro e w1 ⟨rfl, hg1⟩; have HG1 := hid hg1; clear hg1)
      go_ret2
      rw [HR.out]
      exact ⟨rfl, HG1.out⟩
end Go.Proofs.Ytobicndpkojgiaa

/-! Sh17d -/
namespace Go.Proofs.Ytobicndpkojgiaa
open Go.RowKit

/-- a single shift: how its outcome is told -/
def SgE : (((Int × Int) × Nat) ⊕ Int) → Ending → Prop
  | .inl (t, n), e => e = .returned (.tuple #[.agg #[.int .i64 t.1, .int .i64 t.2], .int .i64 ((n + 1 : Nat) : Int), .int .i64 0])
  | .inr x, e => ∃ n : Int, e = .returned (.tuple #[.agg #[.int .i64 0, .int .i64 0], .int .i64 n, .int .i64 x])

set_option maxHeartbeats 4000000 in
set_option maxRecDepth 10000 in
theorem shSingle (HW : WideE) (v : Value) (c : Int) (r : List Int) (set : Int) (w : World) (hs : Sl .u8 w v (c :: r)) (hu : U8 (c :: r)) :
    Calls Try.prog 66 #[v, .int .i64 set] w fun e w' => SgE (plS set r) e ∧ Below w.heap.size w w' := by
  have HB0 := hid (show Below w.heap.size w (w.alloc (.cells #[.int .i64 0, .int .i64 0] 88)) from by (repeat (first | exact Below.refl _ _ | exact below_drewN _ | refine Below.drew ?_ | refine Below.alloc ?_ (by simp) _ | refine Below.setCell ?_ (by simp) _ | refine below_drewN' ?_ _)))
  have HX := hid (Box.made w 88 [.int .i64 0, .int .i64 0])
  cases r with
  | nil =>
    obtain ⟨a1, cap1, rfl, q1, -, -⟩ := hs
    simp only [List.length_singleton] at *
    go_enter Try.func66, Try.ntmps66
    go_wp2
    refine bodyPost_ret (results_tk3 rfl rfl (loadTk (Box.made w 88 [_, _]))) rfl ⟨⟨0, rfl⟩, by (repeat (first | exact Below.refl _ _ | exact below_drewN _ | refine Below.drew ?_ | refine Below.alloc ?_ (by simp) _ | refine Below.setCell ?_ (by simp) _ | refine below_drewN' ?_ _))⟩
  | cons d r =>
    have HS := hid (hs.below HB0.out)
    obtain ⟨a1, c1, hv⟩ := hs.form
    obtain ⟨n, hn⟩ : ∃ n, n = (c :: d :: r).length := ⟨_, rfl⟩
    have HL := hid (show 1 ≤ (c :: d :: r).length by simp)
    have HDR := hid (show List.drop (Int.toNat 1) (c :: d :: r) = d :: r from rfl)
    rw [← hn] at hv
    subst hv
    have e1 : ((n : Int) == 1) = false := by simp [hn]; omega
    have hu' : U8 (d :: r) := fun x hx => hu x (List.mem_cons_of_mem _ hx)
    have HC := hid (fun (w : World) v' (h : Sl .u8 w v' (d :: r)) => shChar HW v' d r set set w h hu')
    rw [show (if 128 ≤ d then set else set) = set from ite_self _] at HC
    have hn3 : ((plS set (d :: r)).elim (fun p => p.2) (fun _ => 0) : Nat) ≤ 2 := by
      unfold plS
      simp only
      repeat' split
      all_goals simp
    clear hs hu hu' hn HW
    generalize plS set (d :: r) = R at HC hn3 ⊢
    cases R with
    | inl tn =>
      obtain ⟨⟨ts, tp⟩, k⟩ := tn
      simp only [PlE, Sum.elim_inl] at HC hn3
      go_enter Try.func66, Try.ntmps66
      go_wp2_with (first
        | (with_reducible refine at_from ?_; refine wpList_from _ rfl _ _ 23 rfl .u8 5 1 Try.underlying23 Try.infoU8 (.slice a1 n c1) (c :: d :: r) rfl HS.out .i64 1 rfl (by omega) (by have := HL.out; omega) ?_; intro v1 hs1; rw [HDR.out] at hs1; obtain ⟨a2, c2, hv2⟩ := hs1.form; obtain ⟨n2, hn2⟩ : ∃ n2, n2 = (d :: r).length := ⟨_, rfl⟩; rw [← hn2] at hv2; subst hv2; have HS1 := hid hs1; clear hs1 hn2)
        | (go_at_call 68; refine (HC.out _ _ HS1.out).mono ?_; rintro e w1 ⟨rfl, hb1⟩; have HX1 := hid (HX.out.below hb1 (by simp)); have HB1 := hid (HB0.out.trans (hb1.mono (by simp))); have f0 := HX1.out.ice 0; have f1 := HX1.out.ice 1; have y0 := HX1.out.cell 0; have y1 := HX1.out.cell 1; simp only [List.getElem?_cons_zero, List.getElem?_cons_succ] at y0 y1; clear hb1))
      refine bodyPost_ret (results_tk3 rfl rfl (loadTk ((HX1.out.two (.int .i64 ts) (.int .i64 tp)).two (.int .i64 ts) (.int .i64 tp)))) rfl ⟨?_, below_two (below_two HB1.out (Nat.le_refl _)) (Nat.le_refl _)⟩
      show _ = Ending.returned _
      rw [show ((k + 1 : Nat) : Int) = 1 + (k : Int) by omega]
      rfl
    | inr x =>
      simp only [PlE] at HC
      go_enter Try.func66, Try.ntmps66
      go_wp2_with (first
        | (with_reducible refine at_from ?_; refine wpList_from _ rfl _ _ 23 rfl .u8 5 1 Try.underlying23 Try.infoU8 (.slice a1 n c1) (c :: d :: r) rfl HS.out .i64 1 rfl (by omega) (by have := HL.out; omega) ?_; intro v1 hs1; rw [HDR.out] at hs1; obtain ⟨a2, c2, hv2⟩ := hs1.form; obtain ⟨n2, hn2⟩ : ∃ n2, n2 = (d :: r).length := ⟨_, rfl⟩; rw [← hn2] at hv2; subst hv2; have HS1 := hid hs1; clear hs1 hn2)
        | (go_at_call 68; refine (HC.out _ _ HS1.out).mono ?_; rintro e w1 ⟨rfl, hb1⟩; have HX1 := hid (HX.out.below hb1 (by simp)); have HB1 := hid (HB0.out.trans (hb1.mono (by simp))); have f0 := HX1.out.ice 0; have f1 := HX1.out.ice 1; have y0 := HX1.out.cell 0; have y1 := HX1.out.cell 1; simp only [List.getElem?_cons_zero, List.getElem?_cons_succ] at y0 y1; clear hb1))
      refine bodyPost_ret (results_tk3 rfl rfl (loadTk ((HX1.out.two (.int .i64 0) (.int .i64 0)).two (.int .i64 0) (.int .i64 0)))) rfl ⟨⟨_, rfl⟩, below_two (below_two HB1.out (Nat.le_refl _)) (Nat.le_refl _)⟩
end Go.Proofs.Ytobicndpkojgiaa

/-! Sh17e -/
namespace Go.Proofs.Ytobicndpkojgiaa
open Go.RowKit
set_option linter.unusedVariables false

/-- how the outcome of a step is told: the token (all zero: none), how many bytes, no error, the state then; or no token, the error -/
def NxE (B : Nat) (w : World) : ((List (Int × Int) × Nat × Rd) ⊕ Int) → Ending → World → Prop
  | .inl (ts, n, s), e, w' => (∃ t : Int × Int, ts = (if t = (0, 0) then [] else [t]) ∧ e = .returned (.tuple #[.agg #[.int .i64 t.1, .int .i64 t.2], .int .i64 (n : Int), .int .i64 0])) ∧ StI B s w' ∧ w.grownBy w' (some B)
  | .inr x, e, w' => (∃ n : Int, e = .returned (.tuple #[.agg #[.int .i64 0, .int .i64 0], .int .i64 n, .int .i64 x])) ∧ w.grownBy w' (some B)
theorem box_after (w : World) (B j : Nat) (v : Value) (t : TypeId) (cs : List Value) : Box t cs w.heap.size ((w.setCell ⟨B, j, none⟩ v).alloc (.cells cs.toArray t)) := by
  have h := Box.made (w.setCell ⟨B, j, none⟩ v) t cs
  rwa [show (w.setCell ⟨B, j, none⟩ v).heap.size = w.heap.size from by simp [World.setCell]] at h

set_option maxHeartbeats 4000000 in
set_option maxRecDepth 10000 in
theorem shNextOne (HW : WideE) (HF : ByFinE) (B : Nat) (st : Rd) (v : Value) (c : Int) (r : List Int) (w : World) (hst : StI B st w) (hs : Sl .u8 w v (c :: r)) (hu : U8 (c :: r)) (hl : (c :: r).length ≤ 100000) (hq : c = 8 ∨ c = 10 ∨ c = 12 ∨ c = 13 ∨ c = 32) :
    Calls Try.prog 49 #[.pointer (some ⟨B, 0, none⟩), v] w fun e w' => NxE B w (tkS st (c :: r)) e w' := by
  have HST := hid hst
  have HB0 := hid (show Below w.heap.size w (w.alloc (.cells #[.int .i64 0, .int .i64 0] 88)) from by (repeat (first | exact Below.refl _ _ | exact below_drewN _ | refine Below.drew ?_ | refine Below.alloc ?_ (by simp) _ | refine Below.setCell ?_ (by simp) _ | refine below_drewN' ?_ _)))
  have HST0 := hid (HST.out.below HB0.out)
  have HS0 := hid (hs.below HB0.out)
  have HX := hid (Box.made w 88 [.int .i64 0, .int .i64 0])
  have HG0 := hid (grow_below HB0.out (some B))
  have hBw := hst.box.lt
  have hBn : ¬ B = w.heap.size := by omega
  obtain ⟨a1, cap1, rfl, q1, -, h1⟩ := hs
  rcases h1 with h1 | ⟨b1, o1, rfl, hb1, hc⟩
  · simp at q1; omega
  have d0 := (HB0.out.cell (p := ⟨b1, o1 + 0, none⟩) (hb1 (by simp))).trans (hc 0 (by simp))
  simp only [List.getD_cons_zero, Nat.add_zero] at d0
  obtain ⟨u0, u1⟩ := hu c (by simp)
  obtain ⟨n, hn⟩ : ∃ n, n = (c :: r).length := ⟨_, rfl⟩
  have hn0 : 0 < n := by rw [hn]; simp
  rw [← hn] at q1 hl ⊢
  clear hn
  clear hc hst hb1 hu
  rcases hq with rfl | rfl | rfl | rfl | rfl
  · have HR := hid (show tkS st (8 :: r) = .inl ([(0, 8)], 1, st) from by simp [tkS])
    rw [HR.out]
    clear HR
    go_enter Try.func49, Try.ntmps49
    go_wp2
    refine bodyPost_ret (results_tk3 rfl rfl (loadTk (Box.made w 88 [.int .i64 0, .int .i64 8]))) rfl ⟨⟨(0, 8), by decide, rfl⟩, HST.out.below (by (repeat (first | exact Below.refl _ _ | exact below_drewN _ | refine Below.drew ?_ | refine Below.alloc ?_ (by simp) _ | refine Below.setCell ?_ (by simp) _ | refine below_drewN' ?_ _))), grow_new _ _ _⟩
  · have HR := hid (show tkS st (10 :: r) = .inl ([(0, 10)], 1, st) from by simp [tkS])
    rw [HR.out]
    clear HR
    go_enter Try.func49, Try.ntmps49
    go_wp2
    refine bodyPost_ret (results_tk3 rfl rfl (loadTk (Box.made w 88 [.int .i64 0, .int .i64 10]))) rfl ⟨⟨(0, 10), by decide, rfl⟩, HST.out.below (by (repeat (first | exact Below.refl _ _ | exact below_drewN _ | refine Below.drew ?_ | refine Below.alloc ?_ (by simp) _ | refine Below.setCell ?_ (by simp) _ | refine below_drewN' ?_ _))), grow_new _ _ _⟩
  · have HR := hid (show tkS st (12 :: r) = .inl ([(0, 12)], 1, st) from by simp [tkS])
    rw [HR.out]
    clear HR
    go_enter Try.func49, Try.ntmps49
    go_wp2
    refine bodyPost_ret (results_tk3 rfl rfl (loadTk (Box.made w 88 [.int .i64 0, .int .i64 12]))) rfl ⟨⟨(0, 12), by decide, rfl⟩, HST.out.below (by (repeat (first | exact Below.refl _ _ | exact below_drewN _ | refine Below.drew ?_ | refine Below.alloc ?_ (by simp) _ | refine Below.setCell ?_ (by simp) _ | refine below_drewN' ?_ _))), grow_new _ _ _⟩
  · have HR := hid (show tkS st (13 :: r) = .inl ([(0, 13)], 1, st) from by simp [tkS])
    rw [HR.out]
    clear HR
    go_enter Try.func49, Try.ntmps49
    go_wp2
    refine bodyPost_ret (results_tk3 rfl rfl (loadTk (Box.made w 88 [.int .i64 0, .int .i64 13]))) rfl ⟨⟨(0, 13), by decide, rfl⟩, HST.out.below (by (repeat (first | exact Below.refl _ _ | exact below_drewN _ | refine Below.drew ?_ | refine Below.alloc ?_ (by simp) _ | refine Below.setCell ?_ (by simp) _ | refine below_drewN' ?_ _))), grow_new _ _ _⟩
  · have HR := hid (show tkS st (32 :: r) = .inl ([(0, 32)], 1, st) from by simp [tkS])
    rw [HR.out]
    clear HR
    go_enter Try.func49, Try.ntmps49
    go_wp2
    refine bodyPost_ret (results_tk3 rfl rfl (loadTk (Box.made w 88 [.int .i64 0, .int .i64 32]))) rfl ⟨⟨(0, 32), by decide, rfl⟩, HST.out.below (by (repeat (first | exact Below.refl _ _ | exact below_drewN _ | refine Below.drew ?_ | refine Below.alloc ?_ (by simp) _ | refine Below.setCell ?_ (by simp) _ | refine below_drewN' ?_ _))), grow_new _ _ _⟩

set_option maxHeartbeats 4000000 in
set_option maxRecDepth 10000 in
theorem shNextLock (HW : WideE) (HF : ByFinE) (B : Nat) (st : Rd) (v : Value) (c : Int) (r : List Int) (w : World) (hst : StI B st w) (hs : Sl .u8 w v (c :: r)) (hu : U8 (c :: r)) (hl : (c :: r).length ≤ 100000) (hq : c = 14 ∨ c = 15) :
    Calls Try.prog 49 #[.pointer (some ⟨B, 0, none⟩), v] w fun e w' => NxE B w (tkS st (c :: r)) e w' := by
  have HST := hid hst
  have HB0 := hid (show Below w.heap.size w (w.alloc (.cells #[.int .i64 0, .int .i64 0] 88)) from by (repeat (first | exact Below.refl _ _ | exact below_drewN _ | refine Below.drew ?_ | refine Below.alloc ?_ (by simp) _ | refine Below.setCell ?_ (by simp) _ | refine below_drewN' ?_ _)))
  have HST0 := hid (HST.out.below HB0.out)
  have HS0 := hid (hs.below HB0.out)
  have HX := hid (Box.made w 88 [.int .i64 0, .int .i64 0])
  have HG0 := hid (grow_below HB0.out (some B))
  have hBw := hst.box.lt
  have hBn : ¬ B = w.heap.size := by omega
  obtain ⟨a1, cap1, rfl, q1, -, h1⟩ := hs
  rcases h1 with h1 | ⟨b1, o1, rfl, hb1, hc⟩
  · simp at q1; omega
  have d0 := (HB0.out.cell (p := ⟨b1, o1 + 0, none⟩) (hb1 (by simp))).trans (hc 0 (by simp))
  simp only [List.getD_cons_zero, Nat.add_zero] at d0
  obtain ⟨u0, u1⟩ := hu c (by simp)
  obtain ⟨n, hn⟩ : ∃ n, n = (c :: r).length := ⟨_, rfl⟩
  have hn0 : 0 < n := by rw [hn]; simp
  rw [← hn] at q1 hl ⊢
  have f4 := HST0.out.box.ice 4
  have y4 := HST0.out.box.cell 4
  simp only [List.getElem?_cons_zero, List.getElem?_cons_succ] at y4
  clear hc hst hb1 hu hn
  rcases hq with rfl | rfl
  · have HR := hid (show tkS st (14 :: r) = .inl ([], 1, ⟨st.g, 1, st.right⟩) from by simp [tkS])
    rw [HR.out]
    clear HR
    go_enter Try.func49, Try.ntmps49
    go_wp2
    refine bodyPost_ret (results_tk3 rfl rfl (loadTk (box_after w B 4 (.int .i64 1) 88 [.int .i64 0, .int .i64 0]))) rfl ⟨⟨(0, 0), rfl, rfl⟩, (HST.out.putLeft (k := 1) (by decide)).below (by (repeat (first | exact Below.refl _ _ | exact below_drewN _ | refine Below.drew ?_ | refine Below.alloc ?_ (by simp) _ | refine Below.setCell ?_ (by simp) _ | refine below_drewN' ?_ _))), grow_trans (grow_set1 (grow_below (Below.refl _ _) _) _ _) (grow_new _ _ _)⟩
  · have HR := hid (show tkS st (15 :: r) = .inl ([], 1, ⟨st.g, 0, st.right⟩) from by simp [tkS])
    rw [HR.out]
    clear HR
    go_enter Try.func49, Try.ntmps49
    go_wp2
    refine bodyPost_ret (results_tk3 rfl rfl (loadTk (box_after w B 4 (.int .i64 0) 88 [.int .i64 0, .int .i64 0]))) rfl ⟨⟨(0, 0), rfl, rfl⟩, (HST.out.putLeft (k := 0) (by decide)).below (by (repeat (first | exact Below.refl _ _ | exact below_drewN _ | refine Below.drew ?_ | refine Below.alloc ?_ (by simp) _ | refine Below.setCell ?_ (by simp) _ | refine below_drewN' ?_ _))), grow_trans (grow_set1 (grow_below (Below.refl _ _) _) _ _) (grow_new _ _ _)⟩
end Go.Proofs.Ytobicndpkojgiaa

/-! Sh17f -/
namespace Go.Proofs.Ytobicndpkojgiaa
open Go.RowKit
set_option linter.unusedVariables false

theorem pl_ne {set : Int} {b : List Int} {t : Int × Int} {n : Nat} (h : plS set b = .inl (t, n)) : t ≠ (0, 0) := by
  match b with
  | [] => cases h
  | [c] =>
    revert h
    simp only [plS]
    repeat' split
    all_goals (intro h; first | (cases h; done) | (injection h with h; injection h with h _; subst h; intro h; injection h with _ h; omega))
  | c :: d :: r =>
    revert h
    simp only [plS]
    repeat' split
    all_goals (intro h; first | (cases h; done) | (injection h with h; injection h with h _; subst h; intro h; injection h with _ h; omega))
theorem one_tk {t : Int × Int} (h : t ≠ (0, 0)) : [t] = if t = (0, 0) then [] else [t] := by rw [if_neg h]
theorem tk_25 {st : Rd} {r : List Int} : tkS st (25 :: r) = match plS (st.g.getD 2 0) r with | .inl (t, n) => .inl ([t], n + 1, st) | .inr e => .inr e := by
  simp [tkS]
  rfl
theorem tk_29 {st : Rd} {r : List Int} : tkS st (29 :: r) = match plS (st.g.getD 3 0) r with | .inl (t, n) => .inl ([t], n + 1, st) | .inr e => .inr e := by
  simp [tkS]
  rfl
theorem tk_27 {st : Rd} {r : List Int} : tkS st (27 :: r) = match esS st r with | .inl (s, n) => .inl ([], n + 1, s) | .inr e => .inr e := by
  simp [tkS]
  rfl

set_option maxHeartbeats 4000000 in
set_option maxRecDepth 10000 in
theorem shNext25 (HW : WideE) (HF : ByFinE) (B : Nat) (st : Rd) (v : Value) (c : Int) (r : List Int) (w : World) (hst : StI B st w) (hs : Sl .u8 w v (c :: r)) (hu : U8 (c :: r)) (hl : (c :: r).length ≤ 100000) (hq : c = 25) :
    Calls Try.prog 49 #[.pointer (some ⟨B, 0, none⟩), v] w fun e w' => NxE B w (tkS st (c :: r)) e w' := by
  have HST := hid hst
  have HB0 := hid (show Below w.heap.size w (w.alloc (.cells #[.int .i64 0, .int .i64 0] 88)) from by (repeat (first | exact Below.refl _ _ | exact below_drewN _ | refine Below.drew ?_ | refine Below.alloc ?_ (by simp) _ | refine Below.setCell ?_ (by simp) _ | refine below_drewN' ?_ _)))
  have HST0 := hid (HST.out.below HB0.out)
  have HS0 := hid (hs.below HB0.out)
  have HX := hid (Box.made w 88 [.int .i64 0, .int .i64 0])
  have HG0 := hid (grow_below HB0.out (some B))
  have hBw := hst.box.lt
  have hBn : ¬ B = w.heap.size := by omega
  subst hq
  rw [tk_25]
  have y2 := HST0.out.cell (i := 2) (by decide)
  have HC := hid (shSingle HW v 25 r (st.g.getD 2 0) _ HS0.out hu)
  have HNE := hid (fun t n (h : plS (st.g.getD 2 0) r = .inl (t, n)) => pl_ne h)
  obtain ⟨a1, cap1, rfl, q1, -, h1⟩ := hs
  rcases h1 with h1 | ⟨b1, o1, rfl, hb1, hc⟩
  · simp at q1; omega
  have d0 := (HB0.out.cell (p := ⟨b1, o1 + 0, none⟩) (hb1 (by simp))).trans (hc 0 (by simp))
  simp only [List.getD_cons_zero, Nat.add_zero] at d0
  obtain ⟨n, hn⟩ : ∃ n, n = (25 :: r).length := ⟨_, rfl⟩
  have hn0 : 0 < n := by rw [hn]; simp
  rw [← hn] at q1 hl HC ⊢
  generalize st.g.getD 2 0 = set at y2 HC HNE ⊢
  generalize plS set r = R at HC HNE ⊢
  clear hc hst hb1 hu hn HW HF
  cases R with
  | inl tn =>
    obtain ⟨⟨ts, tp⟩, k⟩ := tn
    have hne := hid (HNE.out _ _ rfl)
    simp only [SgE] at HC
    clear HNE
    go_enter Try.func49, Try.ntmps49
    go_wp2_with (go_at_call 66; refine HC.out.mono ?_; rintro e w1 ⟨rfl, hb1⟩; have HX1 := hid (HX.out.below hb1 (by simp)); have HB1 := hid (HB0.out.trans (hb1.mono (by simp))); have HS1 := hid (HST0.out.below hb1); have f0 := HX1.out.ice 0; have f1 := HX1.out.ice 1; have z0 := HX1.out.cell 0; have z1 := HX1.out.cell 1; simp only [List.getElem?_cons_zero, List.getElem?_cons_succ] at z0 z1; clear hb1)
    refine bodyPost_ret (results_tk3 rfl rfl (loadTk (HX1.out.two (.int .i64 ts) (.int .i64 tp)))) rfl ⟨⟨(ts, tp), one_tk hne.out, rfl⟩, ((HS1.out.far hBn _ _).far hBn _ _), grow_far (grow_far (grow_below HB1.out _) (Nat.le_refl _) _ _) (Nat.le_refl _) _ _⟩
  | inr x =>
    simp only [SgE] at HC
    clear HNE
    go_enter Try.func49, Try.ntmps49
    go_wp2_with (go_at_call 66; refine HC.out.mono ?_; rintro e w1 ⟨⟨n1, rfl⟩, hb1⟩; have HX1 := hid (HX.out.below hb1 (by simp)); have HB1 := hid (HB0.out.trans (hb1.mono (by simp))); have HS1 := hid (HST0.out.below hb1); have f0 := HX1.out.ice 0; have f1 := HX1.out.ice 1; have z0 := HX1.out.cell 0; have z1 := HX1.out.cell 1; simp only [List.getElem?_cons_zero, List.getElem?_cons_succ] at z0 z1; clear hb1)
    refine bodyPost_ret (results_tk3 rfl rfl (loadTk (HX1.out.two (.int .i64 0) (.int .i64 0)))) rfl ⟨⟨n1, rfl⟩, grow_far (grow_far (grow_below HB1.out _) (Nat.le_refl _) _ _) (Nat.le_refl _) _ _⟩

set_option maxHeartbeats 4000000 in
set_option maxRecDepth 10000 in
theorem shNext29 (HW : WideE) (HF : ByFinE) (B : Nat) (st : Rd) (v : Value) (c : Int) (r : List Int) (w : World) (hst : StI B st w) (hs : Sl .u8 w v (c :: r)) (hu : U8 (c :: r)) (hl : (c :: r).length ≤ 100000) (hq : c = 29) :
    Calls Try.prog 49 #[.pointer (some ⟨B, 0, none⟩), v] w fun e w' => NxE B w (tkS st (c :: r)) e w' := by
  have HST := hid hst
  have HB0 := hid (show Below w.heap.size w (w.alloc (.cells #[.int .i64 0, .int .i64 0] 88)) from by (repeat (first | exact Below.refl _ _ | exact below_drewN _ | refine Below.drew ?_ | refine Below.alloc ?_ (by simp) _ | refine Below.setCell ?_ (by simp) _ | refine below_drewN' ?_ _)))
  have HST0 := hid (HST.out.below HB0.out)
  have HS0 := hid (hs.below HB0.out)
  have HX := hid (Box.made w 88 [.int .i64 0, .int .i64 0])
  have HG0 := hid (grow_below HB0.out (some B))
  have hBw := hst.box.lt
  have hBn : ¬ B = w.heap.size := by omega
  subst hq
  rw [tk_29]
  have y2 := HST0.out.cell (i := 3) (by decide)
  have HC := hid (shSingle HW v 29 r (st.g.getD 3 0) _ HS0.out hu)
  have HNE := hid (fun t n (h : plS (st.g.getD 3 0) r = .inl (t, n)) => pl_ne h)
  obtain ⟨a1, cap1, rfl, q1, -, h1⟩ := hs
  rcases h1 with h1 | ⟨b1, o1, rfl, hb1, hc⟩
  · simp at q1; omega
  have d0 := (HB0.out.cell (p := ⟨b1, o1 + 0, none⟩) (hb1 (by simp))).trans (hc 0 (by simp))
  simp only [List.getD_cons_zero, Nat.add_zero] at d0
  obtain ⟨n, hn⟩ : ∃ n, n = (29 :: r).length := ⟨_, rfl⟩
  have hn0 : 0 < n := by rw [hn]; simp
  rw [← hn] at q1 hl HC ⊢
  generalize st.g.getD 3 0 = set at y2 HC HNE ⊢
  generalize plS set r = R at HC HNE ⊢
  clear hc hst hb1 hu hn HW HF
  cases R with
  | inl tn =>
    obtain ⟨⟨ts, tp⟩, k⟩ := tn
    have hne := hid (HNE.out _ _ rfl)
    simp only [SgE] at HC
    clear HNE
    go_enter Try.func49, Try.ntmps49
    go_wp2_with (go_at_call 66; refine HC.out.mono ?_; rintro e w1 ⟨rfl, hb1⟩; have HX1 := hid (HX.out.below hb1 (by simp)); have HB1 := hid (HB0.out.trans (hb1.mono (by simp))); have HS1 := hid (HST0.out.below hb1); have f0 := HX1.out.ice 0; have f1 := HX1.out.ice 1; have z0 := HX1.out.cell 0; have z1 := HX1.out.cell 1; simp only [List.getElem?_cons_zero, List.getElem?_cons_succ] at z0 z1; clear hb1)
    refine bodyPost_ret (results_tk3 rfl rfl (loadTk (HX1.out.two (.int .i64 ts) (.int .i64 tp)))) rfl ⟨⟨(ts, tp), one_tk hne.out, rfl⟩, ((HS1.out.far hBn _ _).far hBn _ _), grow_far (grow_far (grow_below HB1.out _) (Nat.le_refl _) _ _) (Nat.le_refl _) _ _⟩
  | inr x =>
    simp only [SgE] at HC
    clear HNE
    go_enter Try.func49, Try.ntmps49
    go_wp2_with (go_at_call 66; refine HC.out.mono ?_; rintro e w1 ⟨⟨n1, rfl⟩, hb1⟩; have HX1 := hid (HX.out.below hb1 (by simp)); have HB1 := hid (HB0.out.trans (hb1.mono (by simp))); have HS1 := hid (HST0.out.below hb1); have f0 := HX1.out.ice 0; have f1 := HX1.out.ice 1; have z0 := HX1.out.cell 0; have z1 := HX1.out.cell 1; simp only [List.getElem?_cons_zero, List.getElem?_cons_succ] at z0 z1; clear hb1)
    refine bodyPost_ret (results_tk3 rfl rfl (loadTk (HX1.out.two (.int .i64 0) (.int .i64 0)))) rfl ⟨⟨n1, rfl⟩, grow_far (grow_far (grow_below HB1.out _) (Nat.le_refl _) _ _) (Nat.le_refl _) _ _⟩

set_option maxHeartbeats 4000000 in
set_option maxRecDepth 10000 in
theorem shNext27 (HW : WideE) (HF : ByFinE) (B : Nat) (st : Rd) (v : Value) (c : Int) (r : List Int) (w : World) (hst : StI B st w) (hs : Sl .u8 w v (c :: r)) (hu : U8 (c :: r)) (hl : (c :: r).length ≤ 100000) (hq : c = 27) :
    Calls Try.prog 49 #[.pointer (some ⟨B, 0, none⟩), v] w fun e w' => NxE B w (tkS st (c :: r)) e w' := by
  have HST := hid hst
  have HB0 := hid (show Below w.heap.size w (w.alloc (.cells #[.int .i64 0, .int .i64 0] 88)) from by (repeat (first | exact Below.refl _ _ | exact below_drewN _ | refine Below.drew ?_ | refine Below.alloc ?_ (by simp) _ | refine Below.setCell ?_ (by simp) _ | refine below_drewN' ?_ _)))
  have HST0 := hid (HST.out.below HB0.out)
  have HS0 := hid (hs.below HB0.out)
  have HX := hid (Box.made w 88 [.int .i64 0, .int .i64 0])
  have HG0 := hid (grow_below HB0.out (some B))
  have hBw := hst.box.lt
  have hBn : ¬ B = w.heap.size := by omega
  subst hq
  rw [tk_27]
  have HC := hid (shSequence HF B st v 27 r _ HST0.out HS0.out hu hl)
  obtain ⟨a1, cap1, rfl, q1, -, h1⟩ := hs
  rcases h1 with h1 | ⟨b1, o1, rfl, hb1, hc⟩
  · simp at q1; omega
  have d0 := (HB0.out.cell (p := ⟨b1, o1 + 0, none⟩) (hb1 (by simp))).trans (hc 0 (by simp))
  simp only [List.getD_cons_zero, Nat.add_zero] at d0
  obtain ⟨n, hn⟩ : ∃ n, n = (27 :: r).length := ⟨_, rfl⟩
  have hn0 : 0 < n := by rw [hn]; simp
  rw [← hn] at q1 hl HC ⊢
  generalize esS st r = R at HC ⊢
  clear hc hst hb1 hu hn HW HF
  cases R with
  | inl tn =>
    obtain ⟨s, k⟩ := tn
    simp only [EsE] at HC
    go_enter Try.func49, Try.ntmps49
    go_wp2_with (go_at_call 67; refine HC.out.mono ?_; rintro e w1 ⟨rfl, hs1, hg1⟩; have HS1 := hid hs1; have HX1 := hid (show Box 88 [.int .i64 0, .int .i64 0] w.heap.size w1 from (hg1.block _ HX.out.lt (fun e => hBn (by injection e with e; exact e.symm))).trans HX.out); have HG1 := hid (grow_trans HG0.out hg1); have f0 := HX1.out.ice 0; have f1 := HX1.out.ice 1; have z0 := HX1.out.cell 0; have z1 := HX1.out.cell 1; simp only [List.getElem?_cons_zero, List.getElem?_cons_succ] at z0 z1; clear hg1; clear hs1)
    refine bodyPost_ret (results_tk3 rfl rfl (loadTk (HX1.out.two (.int .i64 0) (.int .i64 0)))) rfl ⟨⟨(0, 0), rfl, rfl⟩, ((HS1.out.far hBn _ _).far hBn _ _), grow_far (grow_far HG1.out (Nat.le_refl _) _ _) (Nat.le_refl _) _ _⟩
  | inr x =>
    simp only [EsE] at HC
    go_enter Try.func49, Try.ntmps49
    go_wp2_with (go_at_call 67; refine HC.out.mono ?_; rintro e w1 ⟨rfl, hg1⟩; have HX1 := hid (show Box 88 [.int .i64 0, .int .i64 0] w.heap.size w1 from (hg1.block _ HX.out.lt (fun e => hBn (by injection e with e; exact e.symm))).trans HX.out); have HG1 := hid (grow_trans HG0.out hg1); have f0 := HX1.out.ice 0; have f1 := HX1.out.ice 1; have z0 := HX1.out.cell 0; have z1 := HX1.out.cell 1; simp only [List.getElem?_cons_zero, List.getElem?_cons_succ] at z0 z1; clear hg1)
    refine bodyPost_ret (results_tk3 rfl rfl (loadTk (HX1.out.two (.int .i64 0) (.int .i64 0)))) rfl ⟨⟨0, rfl⟩, grow_far (grow_far HG1.out (Nat.le_refl _) _ _) (Nat.le_refl _) _ _⟩
end Go.Proofs.Ytobicndpkojgiaa

/-! Sh17g -/
namespace Go.Proofs.Ytobicndpkojgiaa
open Go.RowKit
set_option linter.unusedVariables false

theorem tk_char {st : Rd} {c : Int} {r : List Int} (h1 : c ≠ 8) (h2 : c ≠ 10) (h3 : c ≠ 12) (h4 : c ≠ 13) (h5 : c ≠ 32) (h6 : c ≠ 14) (h7 : c ≠ 15) (h8 : c ≠ 25) (h9 : c ≠ 29) (h10 : c ≠ 27) :
    tkS st (c :: r) = match plS (if 128 ≤ c then st.g.getD st.right 0 else st.g.getD st.left 0) (c :: r) with | .inl (t, n) => .inl ([t], n, st) | .inr e => .inr e := by
  have n1 : ¬ (c = 32 ∨ c = 8 ∨ c = 10 ∨ c = 12 ∨ c = 13) := by omega
  have n2 : ¬ (c = 14 ∨ c = 15) := by omega
  have n3 : ¬ (c = 25 ∨ c = 29) := by omega
  by_cases hr : (33 ≤ c ∧ c ≤ 126) ∨ (161 ≤ c ∧ c ≤ 254)
  · have e1 : st.g.getD (if 126 < c then st.right else st.left) 0 = if 128 ≤ c then st.g.getD st.right 0 else st.g.getD st.left 0 := by
      by_cases h : 128 ≤ c
      · rw [if_pos h, if_pos (by omega)]
      · rw [if_neg h, if_neg (by omega)]
    simp only [tkS, if_neg n1, if_neg n2, if_neg h10, if_neg n3, if_pos hr, e1]
    rfl
  · simp only [tkS, if_neg n1, if_neg n2, if_neg h10, if_neg n3, if_neg hr]
    have e2 : ∀ set, plS set (c :: r) = .inr 11 := fun set => by
      have hs : ¬ (33 ≤ c - sdS c ∧ c - sdS c ≤ 126) := by unfold sdS; split <;> omega
      simp only [plS, if_neg hs]
    rw [e2]

set_option maxHeartbeats 4000000 in
set_option maxRecDepth 10000 in
theorem shNextChar (HW : WideE) (HF : ByFinE) (B : Nat) (st : Rd) (v : Value) (c : Int) (r : List Int) (w : World) (hst : StI B st w) (hs : Sl .u8 w v (c :: r)) (hu : U8 (c :: r)) (hl : (c :: r).length ≤ 100000) (h1 : c ≠ 8) (h2 : c ≠ 10) (h3 : c ≠ 12) (h4 : c ≠ 13) (h5 : c ≠ 32) (h6 : c ≠ 14) (h7 : c ≠ 15) (h8 : c ≠ 25) (h9 : c ≠ 29) (h10 : c ≠ 27) :
    Calls Try.prog 49 #[.pointer (some ⟨B, 0, none⟩), v] w fun e w' => NxE B w (tkS st (c :: r)) e w' := by
  have HST := hid hst
  have HB0 := hid (show Below w.heap.size w (w.alloc (.cells #[.int .i64 0, .int .i64 0] 88)) from by (repeat (first | exact Below.refl _ _ | exact below_drewN _ | refine Below.drew ?_ | refine Below.alloc ?_ (by simp) _ | refine Below.setCell ?_ (by simp) _ | refine below_drewN' ?_ _)))
  have HST0 := hid (HST.out.below HB0.out)
  have HS0 := hid (hs.below HB0.out)
  have HX := hid (Box.made w 88 [.int .i64 0, .int .i64 0])
  have HG0 := hid (grow_below HB0.out (some B))
  have hBw := hst.box.lt
  have hBn : ¬ B = w.heap.size := by omega
  rw [tk_char h1 h2 h3 h4 h5 h6 h7 h8 h9 h10]
  have y4 := HST0.out.box.cell 4
  have y5 := HST0.out.box.cell 5
  simp only [List.getElem?_cons_zero, List.getElem?_cons_succ] at y4 y5
  have yl := HST0.out.cell hst.left
  have yr := HST0.out.cell hst.right
  have hl4 := hst.left
  have hr4 := hst.right
  have HC := hid (shChar HW v c r (st.g.getD st.left 0) (st.g.getD st.right 0) (w.alloc (.cells #[.int .i64 0, .int .i64 0] 88)).drew (HS0.out.below (Below.refl _ _).drew) hu)
  have HNE := hid (fun t n (h : plS (if 128 ≤ c then st.g.getD st.right 0 else st.g.getD st.left 0) (c :: r) = .inl (t, n)) => pl_ne h)
  obtain ⟨a1, cap1, rfl, q1, -, h1⟩ := hs
  rcases h1 with h1 | ⟨b1, o1, rfl, hb1, hc⟩
  · simp at q1; omega
  have d0 := (HB0.out.cell (p := ⟨b1, o1 + 0, none⟩) (hb1 (by simp))).trans (hc 0 (by simp))
  simp only [List.getD_cons_zero, Nat.add_zero] at d0
  obtain ⟨u0, u1⟩ := hu c (by simp)
  obtain ⟨n, hn⟩ : ∃ n, n = (c :: r).length := ⟨_, rfl⟩
  have hn0 : 0 < n := by rw [hn]; simp
  rw [← hn] at q1 hl HC ⊢
  generalize plS (if 128 ≤ c then st.g.getD st.right 0 else st.g.getD st.left 0) (c :: r) = R at HC HNE ⊢
  generalize st.g.getD st.right 0 = sr at yr HC
  generalize st.g.getD st.left 0 = sl at yl HC
  generalize st.right = ri at hr4 y5 yr
  generalize st.left = le at hl4 y4 yl
  have t8 : (c == 8) = false := by simp [h1]
  have t10 : (c == 10) = false := by simp [h2]
  have t12 : (c == 12) = false := by simp [h3]
  have t13 : (c == 13) = false := by simp [h4]
  have t32 : (c == 32) = false := by simp [h5]
  have t14 : (c == 14) = false := by simp [h6]
  have t15 : (c == 15) = false := by simp [h7]
  have t25 : (c == 25) = false := by simp [h8]
  have t29 : (c == 29) = false := by simp [h9]
  have t27 : (c == 27) = false := by simp [h10]
  have HGS := hid (fun w' (hg : (w.alloc (.cells #[.int .i64 0, .int .i64 0] 88)).grownBy w' (some w.heap.size)) => (show w'.cell? ⟨B, 4, none⟩ = some (.int .i64 (le : Int)) ∧ w'.cell? ⟨B, 5, none⟩ = some (.int .i64 (ri : Int)) ∧ w'.cell? ⟨B, le, none⟩ = some (.int .i64 sl) ∧ w'.cell? ⟨B, ri, none⟩ = some (.int .i64 sr) from by
    have hb : w'.heap[B]? = (w.alloc (.cells #[.int .i64 0, .int .i64 0] 88)).heap[B]? := hg.block B HST0.out.box.lt (fun e => hBn (by injection e))
    have hcell : ∀ j, w'.cell? ⟨B, j, none⟩ = (w.alloc (.cells #[.int .i64 0, .int .i64 0] 88)).cell? ⟨B, j, none⟩ := fun j => by simp only [World.cell?, hb]
    exact ⟨(hcell 4).trans y4, (hcell 5).trans y5, (hcell le).trans yl, (hcell ri).trans yr⟩))
  have il4 : (le : Int) < 4 := by omega
  have ir4 : (ri : Int) < 4 := by omega
  have il0 : (0 : Int) ≤ (le : Int) := by omega
  have ir0 : (0 : Int) ≤ (ri : Int) := by omega
  have HGq := hid (grow_below (Below.refl (w.alloc (.cells #[.int .i64 0, .int .i64 0] 88)).heap.size (w.alloc (.cells #[.int .i64 0, .int .i64 0] 88))).drew (some w.heap.size))
  have HBq := hid (Below.refl (w.alloc (.cells #[.int .i64 0, .int .i64 0] 88)).heap.size (w.alloc (.cells #[.int .i64 0, .int .i64 0] 88))).drew
  have HXq := hid (HX.out.below HBq.out HX.out.lt)
  have HSq := hid (HST0.out.below HBq.out)
  clear y4 y5 yl yr hc hst hb1 hu hn HW HF h1 h2 h3 h4 h5 h6 h7 h8 h9 h10 HST0 HG0
  cases R with
  | inl tn =>
    obtain ⟨⟨ts, tp⟩, k⟩ := tn
    have hne := hid (HNE.out _ _ rfl)
    simp only [PlE] at HC
    clear HNE
    go_enter Try.func49, Try.ntmps49
    go_wp2
    go_region_held3 (fun w' => w'.cell? ⟨B, 4, none⟩ = some (.int .i64 (le : Int)) ∧ w'.cell? ⟨B, 5, none⟩ = some (.int .i64 (ri : Int)) ∧ w'.cell? ⟨B, le, none⟩ = some (.int .i64 sl) ∧ w'.cell? ⟨B, ri, none⟩ = some (.int .i64 sr))
      (first | exact HGS.out _ HGq.out | exact HGS.out _ HG1.out | exact HGS.out _ (grow_set1 HG1.out _ _) | exact HGS.out _ (grow_set1 (grow_set1 HG1.out _ _) _ _))
      (first | (go_simp; go_at_call 68; with_reducible refine HC.out.mono ?_; rintro e w1 ⟨rfl, hb1⟩; have HB1 := hid (HBq.out.trans (hb1.mono HBq.out.size)); have HG1 := hid (grow_below HB1.out (some w.heap.size)); have HX1 := hid (HXq.out.below hb1 HXq.out.lt); have HS1 := hid (HSq.out.below hb1); have f0 := HX1.out.ice 0; have f1 := HX1.out.ice 1; have z0 := HX1.out.cell 0; have z1 := HX1.out.cell 1; simp only [List.getElem?_cons_zero, List.getElem?_cons_succ] at z0 z1; clear hb1))
    go_wp2
    refine bodyPost_ret (results_tk3 rfl rfl (loadTk (HX1.out.two (.int .i64 ts) (.int .i64 tp)))) rfl ⟨⟨(ts, tp), one_tk hne.out, rfl⟩, ((HS1.out.far hBn _ _).far hBn _ _), grow_far (grow_far (grow_below (HB0.out.trans (HB1.out.mono HB0.out.size)) _) (Nat.le_refl _) _ _) (Nat.le_refl _) _ _⟩
  | inr x =>
    simp only [PlE] at HC
    clear HNE
    go_enter Try.func49, Try.ntmps49
    go_wp2
    go_region_held3 (fun w' => w'.cell? ⟨B, 4, none⟩ = some (.int .i64 (le : Int)) ∧ w'.cell? ⟨B, 5, none⟩ = some (.int .i64 (ri : Int)) ∧ w'.cell? ⟨B, le, none⟩ = some (.int .i64 sl) ∧ w'.cell? ⟨B, ri, none⟩ = some (.int .i64 sr))
      (first | exact HGS.out _ HGq.out | exact HGS.out _ HG1.out | exact HGS.out _ (grow_set1 HG1.out _ _) | exact HGS.out _ (grow_set1 (grow_set1 HG1.out _ _) _ _))
      (first | (go_simp; go_at_call 68; with_reducible refine HC.out.mono ?_; rintro e w1 ⟨rfl, hb1⟩; have HB1 := hid (HBq.out.trans (hb1.mono HBq.out.size)); have HG1 := hid (grow_below HB1.out (some w.heap.size)); have HX1 := hid (HXq.out.below hb1 HXq.out.lt); have HS1 := hid (HSq.out.below hb1); have f0 := HX1.out.ice 0; have f1 := HX1.out.ice 1; have z0 := HX1.out.cell 0; have z1 := HX1.out.cell 1; simp only [List.getElem?_cons_zero, List.getElem?_cons_succ] at z0 z1; clear hb1))
    go_wp2
    refine bodyPost_ret (results_tk3 rfl rfl (loadTk (HX1.out.two (.int .i64 0) (.int .i64 0)))) rfl ⟨⟨0, rfl⟩, grow_far (grow_far (grow_below (HB0.out.trans (HB1.out.mono HB0.out.size)) _) (Nat.le_refl _) _ _) (Nat.le_refl _) _ _⟩
end Go.Proofs.Ytobicndpkojgiaa

/-! Sh17h -/
namespace Go.Proofs.Ytobicndpkojgiaa
open Go.RowKit
set_option linter.unusedVariables false

theorem shNext (HW : WideE) (HF : ByFinE) (B : Nat) (st : Rd) (v : Value) (c : Int) (r : List Int) (w : World) (hst : StI B st w) (hs : Sl .u8 w v (c :: r)) (hu : U8 (c :: r)) (hl : (c :: r).length ≤ 100000) :
    Calls Try.prog 49 #[.pointer (some ⟨B, 0, none⟩), v] w fun e w' => NxE B w (tkS st (c :: r)) e w' := by
  by_cases h1 : c = 8
  · exact shNextOne HW HF B st v c r w hst hs hu hl (by omega)
  by_cases h2 : c = 10
  · exact shNextOne HW HF B st v c r w hst hs hu hl (by omega)
  by_cases h3 : c = 12
  · exact shNextOne HW HF B st v c r w hst hs hu hl (by omega)
  by_cases h4 : c = 13
  · exact shNextOne HW HF B st v c r w hst hs hu hl (by omega)
  by_cases h5 : c = 32
  · exact shNextOne HW HF B st v c r w hst hs hu hl (by omega)
  by_cases h6 : c = 14
  · exact shNextLock HW HF B st v c r w hst hs hu hl (by omega)
  by_cases h7 : c = 15
  · exact shNextLock HW HF B st v c r w hst hs hu hl (by omega)
  by_cases h8 : c = 25
  · exact shNext25 HW HF B st v c r w hst hs hu hl h8
  by_cases h9 : c = 29
  · exact shNext29 HW HF B st v c r w hst hs hu hl h9
  by_cases h10 : c = 27
  · exact shNext27 HW HF B st v c r w hst hs hu hl h10
  exact shNextChar HW HF B st v c r w hst hs hu hl h1 h2 h3 h4 h5 h6 h7 h8 h9 h10

/-- ts, and what comes behind q bytes -/
def tkAdd (ts : List (Int × Int)) (q : Nat) : ((List (Int × Int) × Rd) ⊕ (Nat × Int)) → ((List (Int × Int) × Rd) ⊕ (Nat × Int))
  | .inl (l, z) => .inl (ts ++ l, z)
  | .inr (i, e) => .inr (q + i, e)
/-- of the bytes b so many are read: these tokens, this state -/
def Read17 (b : List Int) (q : Nat) (ts : List (Int × Int)) (st : Rd) : Prop := q ≤ b.length ∧ ts.length ≤ q ∧ tkF b.length rd0 b = tkAdd ts q (tkF (b.length - q) st (b.drop q))
theorem rd17_nil (b : List Int) : Read17 b 0 [] rd0 := ⟨Nat.zero_le _, Nat.le_refl _, by
  rw [Nat.sub_zero, List.drop_zero]
  cases tkF b.length rd0 b with
  | inl x => rfl
  | inr x => obtain ⟨i, e⟩ := x; simp [tkAdd]⟩
theorem rd17_step {b : List Int} {q n : Nat} {ts ts' : List (Int × Int)} {st s : Rd} (h : Read17 b q ts st) (hq : q < b.length) (ht : tkS st (b.drop q) = .inl (ts', n, s)) (hl : ts'.length ≤ 1) : Read17 b (q + n) (ts ++ ts') s := by
  obtain ⟨h1, h2, h3⟩ := h
  have hn := tk_ok ht
  rw [List.length_drop] at hn
  refine ⟨by omega, by rw [List.length_append]; omega, ?_⟩
  rw [h3, show b.length - q = (b.length - q - 1) + 1 by omega, tkF_step (by intro h; have := congrArg List.length h; simp at this; omega), ht]
  simp only
  rw [List.drop_drop, tkF_fuel (b.length - q - 1) (b.length - (q + n)) s (b.drop (q + n)) (by rw [List.length_drop]; omega) (by rw [List.length_drop]; omega)]
  cases tkF (b.length - (q + n)) s (b.drop (q + n)) with
  | inl x => obtain ⟨l, z⟩ := x; simp [tkAdd]
  | inr x => obtain ⟨i, e⟩ := x; simp [tkAdd]; omega
theorem rd17_bad {b : List Int} {q : Nat} {ts : List (Int × Int)} {st : Rd} {x : Int} (h : Read17 b q ts st) (hq : q < b.length) (ht : tkS st (b.drop q) = .inr x) : tokS b = .inr (q, x) := by
  obtain ⟨h1, h2, h3⟩ := h
  unfold tokS
  rw [h3, show b.length - q = (b.length - q - 1) + 1 by omega, tkF_step (by intro h; have := congrArg List.length h; simp at this; omega), ht]
  simp [tkAdd]
theorem rd17_end {b : List Int} {ts : List (Int × Int)} {st : Rd} (h : Read17 b b.length ts st) : tokS b = .inl ts := by
  obtain ⟨h1, h2, h3⟩ := h
  unfold tokS
  rw [h3, List.drop_length, tkF_nil]
  simp [tkAdd]
end Go.Proofs.Ytobicndpkojgiaa
