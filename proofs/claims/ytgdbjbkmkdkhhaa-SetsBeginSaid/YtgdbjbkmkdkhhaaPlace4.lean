/- Contracts of package sets' Place and of the comparison that it hands to the library: the list of the places in order, in new memory. -/
import Derived.Test.YtgdbjbkmkdkhhaaStab8
import Derived.Test.YtgdbjbkmkdkhhaaSorted4
namespace Go.Proofs.Ytgdbjbkmkdkhhaa
open Go.RowKit

theorem stableFunc (l : List (List Int)) (B g cap n : Nat) (w : World) (hb : Box 3 (cv (List.range' 0 n)) g w) (hn : n ≤ 100000) (hl : n = l.length) (hc : CmpAt l B g w) :
    Calls Try.prog 23 #[.slice (some ⟨g, 0, none⟩) n cap, .func (.func 24) #[] #[.pointer (some ⟨B, 0, none⟩)]] w fun e w' => e = .returned (.tuple #[]) ∧
      ∃ M, IsPl l n M ∧ Rown g w M w' := by
  have HB := hid hb
  have HL := hid hl
  have HC := hid hc
  clear hb hl hc
  go_enter Try.func23, Try.ntmps23
  go_wp2_with (go_at_call 28; refine (stableRow l B g cap n w HB.out hn HL.out HC.out).mono ?_; rintro e w' ⟨rfl, M, hm, hr⟩; have HM := hid hm; have HR := hid hr; clear hm hr)
  go_end0
  exact ⟨rfl, M, HM.out, HR.out⟩

set_option maxHeartbeats 1000000 in
theorem placeCmp (v : Value) (l : List (List Int)) (B : Nat) (w : World) (x y : Nat) (h : Rws w v l) (hu : RU l) (hc : w.cell? ⟨B, 0, none⟩ = some v) (hx : x < l.length) (hy : y < l.length) :
    Calls Try.prog 24 #[.int .i64 x, .int .i64 y, .pointer (some ⟨B, 0, none⟩)] w fun e w' => e = .returned (.int .i64 (cmpS (rowAt l x) (rowAt l y))) ∧ ∃ q, w' = w.drewN q := by
  obtain ⟨vs1, l1, s1, r1⟩ := h
  obtain ⟨a1, cap1, rfl, q1, m1, h1⟩ := s1
  have m1 : l.length ≤ 9223372036854775807 := by unfold maxLen at m1; omega
  rw [l1] at q1 h1 hc
  rcases h1 with hc | ⟨b1, o1, rfl, hb1, c1⟩
  · omega
  have d1 := c1 x hx
  have d2 := c1 y hy
  have e1 := hid (r1 x hx)
  have e2 := hid (r1 y hy)
  have u1 := hid (hu.get x)
  have u2 := hid (hu.get y)
  obtain ⟨len, hlen⟩ : ∃ len, len = l.length := ⟨_, rfl⟩
  rw [← hlen] at hx hy hc m1
  clear c1 r1 hb1 q1 hlen l1 hu
  generalize vs1.getD x undef = p1 at d1 e1
  generalize vs1.getD y undef = p2 at d2 e2
  have HX : Hid (l.getD x [] = rowAt l x) := rfl
  have HY : Hid (l.getD y [] = rowAt l y) := rfl
  rw [HX.out] at e1 u1
  rw [HY.out] at e2 u2
  generalize rowAt l x = X at e1 u1 ⊢
  generalize rowAt l y = Y at e2 u2 ⊢
  clear HX HY
  go_enter Try.func24, Try.ntmps24
  go_wp2
  go_quiet (first | (go_at_call 15; exact quiet_same0 (setsCompare p1 p2 X Y _ (e1.out.drewN _) (e2.out.drewN _) u1.out u2.out)))
  go_wp2
  go_ret
  exact ⟨rfl, _, rfl⟩

theorem placeAt {v : Value} {l : List (List Int)} {B g : Nat} {w w1 : World} (h : Rws w v l) (hu : RU l) (hb : Below w.heap.size w w1) (hg : w.heap.size ≤ g) (hB : B < w1.heap.size) (hBg : B ≠ g) (hc : w1.cell? ⟨B, 0, none⟩ = some v) : CmpAt l B g w1 := fun wr hgr x y hx hy => by
  refine placeCmp v l B wr x y (h.below (hb.grown hgr hb.size (fun k hk => by injection hk with hk; omega))) hu ?_ hx hy
  have e : wr.heap[B]? = w1.heap[B]? := hgr.block B hB (fun h => hBg (by injection h))
  rw [← hc]
  simp only [World.cell?, e]

theorem make_ints (n : Nat) (hn : n ≤ 1000000) (w : World) : (Instr.makeSlice 26 (.int .i64 (n : Int)) (.int .i64 (n : Int))).run Try.prog w = .ok (.slice (some ⟨w.heap.size, 0, none⟩) n n) (w.alloc (.cells (cv (List.replicate n 0)).toArray 3)) := by
  obtain ⟨i, hi, hz0, hz1, hz2⟩ := info_parts Try.infoI64
  have := run_make (P := Try.prog) w 26 3 i (.int .i64 0) Try.underlying26 hi hz0 .i64 .i64 (n : Int) (n : Int) (by omega) (by omega) (by rw [hz2]; omega) (by omega)
  rw [this, hz1]
  have e : madeCells (Value.int .i64 0).cells ((n : Int).toNat * 1) = (cv (List.replicate n 0)).toArray := by
    apply Array.ext
    · simp [madeCells, cv, castL]
    · intro j h1 h2
      simp [madeCells, Value.cells, Nat.mod_one, cv, castL]
  rw [e]
  rfl
theorem box_own {g base k : Nat} {w : World} {M : List Nat} (hb : Box 3 (cv M) g w) (hl : M.length = k) (hg : base ≤ g) (hk : k ≤ 100000) : Own .i64 3 base w (.slice (some ⟨g, 0, none⟩) k k) (castL M) := by
  subst hl
  refine ⟨by simp, .inr ⟨g, M.length, (cv M).toArray, by rw [castL_len], hg, hb, by rw [castL_len]; omega, by unfold maxLen; omega, by simp [cv_len], ?_⟩⟩
  rw [castL_len, Nat.mul_one, List.take_of_length_le (by simp [cv_len])]
  rfl
theorem fill_step (n k : Nat) (h : k < n) : (cv (List.range' 0 k ++ List.replicate (n - k) 0)).set k (.int .i64 (k : Int)) = cv (List.range' 0 (k + 1) ++ List.replicate (n - (k + 1)) 0) := by
  have e : n - k = (n - (k + 1)) + 1 := by omega
  rw [e, List.replicate_succ, List.range'_concat]
  simp only [cv, castL, List.map_append, List.map_cons, List.map_nil, Nat.zero_add, Nat.one_mul]
  rw [List.set_append_right _ _ (by simp)]
  simp

set_option maxHeartbeats 1000000 in
set_option maxRecDepth 100000 in
theorem setsPlace (v : Value) (l : List (List Int)) (w : World) (h : Rws w v l) (hu : RU l) (hl : l.length ≤ 100000) :
    Calls Try.prog 10 #[v] w fun e w' => ∃ v' p, e = .returned v' ∧ IsPl l l.length p ∧ Own .i64 3 w.heap.size w' v' (castL p) ∧ Below w.heap.size w w' := by
  have H := hid h
  have HU := hid hu
  obtain ⟨vs1, l1, ⟨a1, cap1, rfl, -, -, -⟩, -⟩ := h
  rw [l1] at H ⊢
  obtain ⟨n, hn⟩ : ∃ n, n = l.length := ⟨_, rfl⟩
  rw [← hn] at H hl ⊢
  have HN := hid hn
  have hmk := make_ints n (by omega)
  clear hn hu l1
  go_enter Try.func10, Try.ntmps10
  go_wp2
  have HBX : Hid (Box 3 (cv (List.range' 0 0 ++ List.replicate (n - 0) 0)) (w.heap.size + 1) ((w.alloc (.cells #[.slice a1 n cap1] 22)).alloc (.cells (cv (List.replicate n 0)).toArray 3))) := hid (by
    rw [List.range'_zero, List.nil_append, Nat.sub_zero]
    have := Box.made (w.alloc (.cells #[.slice a1 n cap1] 22)) 3 (cv (List.replicate n 0))
    rwa [show (w.alloc (.cells #[.slice a1 n cap1] 22)).heap.size = w.heap.size + 1 by simp] at this)
  have HVX : Hid (((w.alloc (.cells #[.slice a1 n cap1] 22)).alloc (.cells (cv (List.replicate n 0)).toArray 3)).cell? ⟨w.heap.size, 0, none⟩ = some (.slice a1 n cap1)) := hid (by simp)
  have HBL : Hid (Below w.heap.size w ((w.alloc (.cells #[.slice a1 n cap1] 22)).alloc (.cells (cv (List.replicate n 0)).toArray 3))) := hid (by (repeat (first | exact Below.refl _ _ | exact below_drewN _ | refine Below.drew ?_ | refine Below.alloc ?_ (by first | omega | (simp; done) | (simp; omega)) _ | refine Below.setCell ?_ (by first | (simp; done) | (simp; omega)) _ | refine below_drewN' ?_ _)))
  have HSZ : Hid (((w.alloc (.cells #[.slice a1 n cap1] 22)).alloc (.cells (cv (List.replicate n 0)).toArray 3)).heap.size = w.heap.size + 2) := hid (by simp)
  obtain ⟨g, hg⟩ : ∃ g, g = w.heap.size + 1 := ⟨_, rfl⟩
  rw [← hg] at HBX ⊢
  have HG := hid hg
  clear hg hmk
  generalize (w.alloc (.cells #[.slice a1 n cap1] 22)).alloc (.cells (cv (List.replicate n 0)).toArray 3) = W2 at HBX HVX HBL HSZ ⊢
  go_loopw [10] (fun iv wr => ∃ k : Nat, k ≤ n ∧ iv = .int .i64 k ∧ Hid (Rown g W2 (List.range' 0 k ++ List.replicate (n - k) 0) wr)) (fun iv _ => n - (intOf iv).toNat)
  case atStart => exact ⟨0, by omega, rfl, Rown.refl HBX.out⟩
  case round =>
    obtain ⟨k, hk, rfl, hr⟩ := hrel
    by_cases hlt : k < n
    · have hst := fill_step n k hlt
      have c1 := hr.out.at (i := k) (by simp; omega)
      have f1 := hr.out.ice k
      have HST := hid hst
      generalize ((List.range' 0 k ++ List.replicate (n - k) 0).getD k 0 : Nat) = z at c1
      clear hst
      go_wp2
      go_roundw
      case rel => exact ⟨k + 1, by omega, by go_num, ⟨by rw [← HST.out]; exact hr.out.1.set k _, grow_set1 hr.out.2 k _⟩⟩
      case measure => simp [intOf]; omega
    · obtain rfl : k = n := by omega
      have HB2 : Hid (Box 3 (cv (List.range' 0 k)) g wr) := hid (by have := hr.out.1; rwa [Nat.sub_self, List.replicate_zero, List.append_nil] at this)
      have HB3 : Hid (Below w.heap.size w wr) := hid (HBL.out.grown hr.out.2 (by have := HSZ.out; omega) (fun j hj => by injection hj with hj; have := HG.out; omega))
      have HC4 : Hid (CmpAt l w.heap.size g wr) := hid (placeAt H.out HU.out HB3.out (by have := HG.out; omega) (by have := HSZ.out; have := hr.out.2.size; omega) (by have := HG.out; omega) (by
        have e : wr.heap[w.heap.size]? = W2.heap[w.heap.size]? := hr.out.2.block _ (by have := HSZ.out; omega) (fun h => by injection h with h; have := HG.out; omega)
        have := HVX.out
        simp only [World.cell?, e] at this ⊢
        exact this))
      go_wp2_with (go_at_call 23; refine (stableFunc l w.heap.size g k k wr HB2.out hl HN.out HC4.out).mono ?_; rintro e w5 ⟨rfl, M, hm, hr5⟩; have HM := hid hm; have HR5 := hid hr5; clear hm hr5)
      go_ret
      refine ⟨_, M, rfl, HM.out, ?_, HB3.out.grown HR5.out.2 (by have := HSZ.out; have := hr.out.2.size; omega) (fun j hj => by injection hj with hj; have := HG.out; omega)⟩
      exact box_own HR5.out.1 HM.out.len (by have := HG.out; omega) (by omega)
end Go.Proofs.Ytgdbjbkmkdkhhaa
