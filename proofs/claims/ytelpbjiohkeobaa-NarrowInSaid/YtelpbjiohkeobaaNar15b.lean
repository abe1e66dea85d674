/- Contracts of package narrow: Put and Get. No conditions. -/
import Derived.Test.YtelpbjiohkeobaaNar15a
import Derived.BigQuiet
namespace Go.Proofs.Ytelpbjiohkeobaa
open Go.RowKit

theorem all_at {s : List Int} (h : s.all inI = true) {j : Nat} (hj : j < s.length) : inI (s.getD j 0) = true := by
  rw [List.getD_eq_getElem?_getD, List.getElem?_eq_getElem hj]
  exact List.all_eq_true.1 h _ (List.getElem_mem hj)
theorem u8_at {s : List Int} (h : U8 s) {j : Nat} (hj : j < s.length) : 0 ≤ s.getD j 0 ∧ s.getD j 0 ≤ 255 := by
  rw [List.getD_eq_getElem?_getD, List.getElem?_eq_getElem hj]
  exact h _ (List.getElem_mem hj)

set_option maxRecDepth 10000 in
set_option maxHeartbeats 4000000 in
theorem narPutYes (k : Int) (hk : narK k = true) (v : Value) (s : List Int) (w : World) (hs : Sl .i64 w v s) (hi : s.all inI = true) (hl : s.length ≤ 100000) : Calls Try.prog 8 #[.int .i64 k, v] w fun e w' =>
    ∃ x, e = .returned (.tuple #[x, .int .i64 (outAt (nchk k s)), .int .i64 (outE 14 (nchk k s))]) ∧ Own .u8 5 w.heap.size w' x (outL (nchk k s)) ∧ Below w.heap.size w w' := by
  have HK := hid hk
  obtain ⟨a1, cap1, rfl, q1, -, h1⟩ := hs
  obtain ⟨n, hn⟩ : ∃ n, n = s.length := ⟨_, rfl⟩
  have HN := hid hn
  have H1 := hid h1
  have HI := hid hi
  rw [← hn] at q1 hl ⊢
  clear h1 hn hk hi
  go_enter Try.func8, Try.ntmps8
  go_wp2_with (go_at_call 17; refine (narKind k _).mono ?_; rw [HK.out]; rintro e w1 ⟨rfl, rfl⟩)
  go_loopw [4, 5, 6, 14] (fun bv rv ev iv wr => ∃ (j : Nat) (x : List Int), j ≤ n ∧ iv = .int .i64 j ∧ rv = .int .i64 0 ∧ ev = .int .i64 0 ∧ Hid (Own .u8 5 w.heap.size wr bv x) ∧ Hid (Below w.heap.size w wr) ∧ Hid (nchk k (s.take j) = .inl x) ∧ x.length ≤ j) (fun _ _ _ iv _ => n - (intOf iv).toNat)
  case atStart => exact ⟨0, [], by omega, rfl, rfl, rfl, Own.nil _ _ _ _, Below.refl _ _, by show nchk k (s.take 0) = _; rfl, by simp⟩
  case round =>
    obtain ⟨j, x, hj, rfl, rfl, rfl, hown, hbel, hput, hxl⟩ := hrel
    by_cases hlt : j < n
    · rcases H1.out with hcc | ⟨b1, o1, rfl, hb1, hc⟩
      · omega
      have hb1' := hb1 (by have := HN.out; omega)
      have d1 := (hbel.out.cell (p := ⟨b1, o1 + j, none⟩) hb1').trans (hc j (by have := HN.out; omega))
      obtain ⟨p1, p2⟩ := putG_part (by have := HN.out; omega) hput.out
      have HCI := hid (all_at HI.out (j := j) (by have := HN.out; omega))
      clear hc hb1 hb1'
      generalize s.getD j 0 = c at d1 p1 p2 HCI
      cases hsc : narB k c with
      | false =>
        have HSC := hid hsc
        have HP := hid (show nchk k s = .inr j from p1 hsc)
        clear p1 p2 hsc
        go_wp2_with (go_at_call 12; refine (narHas k c _ HCI.out).mono ?_; rw [HSC.out]; rintro e w1 ⟨rfl, hb1⟩; have HB1 := hid (hbel.out.trans (hb1.mono hbel.out.size)); clear hb1)
        go_ret3
        exact ⟨_, by rw [HP.out]; rfl, by rw [HP.out]; exact Own.nil .u8 5 _ _, HB1.out⟩
      | true =>
        have HSC := hid hsc
        have HP := hid (show nchk k (s.take (j + 1)) = .inl (x ++ [c]) from p2 hsc)
        obtain ⟨c0, c1⟩ := narB_u8 hsc
        have HX := hid (show (x ++ [c]).length = x.length + 1 by simp)
        clear p1 p2 hsc
        go_wp2_with (first
          | (go_at_call 12; refine (narHas k c _ HCI.out).mono ?_; rw [HSC.out]; rintro e w1 ⟨rfl, hb1⟩; have HB1 := hid (hbel.out.trans (hb1.mono hbel.out.size)); have HW1 := hid (hown.out.below hb1); clear hb1)
          | (at_builtin; go_loud (refine wpList_app _ rfl _ _ 23 rfl .u8 w.heap.size 5 1 Try.underlying23 Try.infoU8 _ x [c] rfl (HW1.out.alloc _) _ rfl (one_sl (by first | simp | rfl)) (by unfold maxLen; simp; omega) (by simp; omega) (by have := HB1.out.size; simp; omega) ?_); intro v5 w5 ho5 hg5 hb5 hn5; have HO5 := hid ho5; have HB5 := hid ((HB1.out.alloc HB1.out.size _).trans hb5); clear ho5 hg5 hb5 hn5))
        go_roundw
        case rel => exact ⟨j + 1, x ++ [c], by omega, by go_num, rfl, rfl, HO5.out, HB5.out, HP.out, by rw [HX.out]; omega⟩
        case measure => simp [intOf]; omega
    · obtain rfl : j = n := by omega
      have HP := hid (show nchk k s = .inl x by rw [← hput.out, HN.out, List.take_length])
      go_wp2
      go_ret3
      exact ⟨_, by rw [HP.out]; rfl, by rw [HP.out]; exact hown.out, hbel.out⟩

set_option maxHeartbeats 4000000 in
theorem narPutNo (k : Int) (hk : narK k = false) (v : Value) (s : List Int) (w : World) (hs : Sl .i64 w v s) : Calls Try.prog 8 #[.int .i64 k, v] w fun e w' =>
    e = .returned (.tuple #[.slice none 0 0, .int .i64 0, .int .i64 18]) ∧ w = w' := by
  obtain ⟨a1, cap1, rfl⟩ := hs.form
  have HK := hid hk
  clear hk
  go_enter Try.func8, Try.ntmps8
  go_wp2_with (go_at_call 17; refine (narKind k _).mono ?_; rw [HK.out]; rintro e w1 ⟨rfl, rfl⟩)
  go_ret3
  exact ⟨rfl, rfl⟩

set_option maxRecDepth 10000 in
set_option maxHeartbeats 4000000 in
theorem narGetYes (k : Int) (hk : narK k = true) (v : Value) (s : List Int) (w : World) (hs : Sl .u8 w v s) (hu : U8 s) (hl : s.length ≤ 1000000) : Calls Try.prog 9 #[.int .i64 k, v] w fun e w' =>
    ∃ x, e = .returned (.tuple #[x, .int .i64 (outAt (nchk k s)), .int .i64 (outE 13 (nchk k s))]) ∧ Own .i64 3 w.heap.size w' x (outL (nchk k s)) ∧ Below w.heap.size w w' := by
  have HK := hid hk
  obtain ⟨a1, cap1, rfl, q1, -, h1⟩ := hs
  obtain ⟨n, hn⟩ : ∃ n, n = s.length := ⟨_, rfl⟩
  have HN := hid hn
  have H1 := hid h1
  have HU := hid hu
  rw [← hn] at q1 hl ⊢
  clear h1 hn hk hu
  go_enter Try.func9, Try.ntmps9
  go_wp2_with (go_at_call 17; refine (narKind k _).mono ?_; rw [HK.out]; rintro e w1 ⟨rfl, rfl⟩)
  go_loopw [4, 5, 6, 15] (fun bv rv ev iv wr => ∃ (j : Nat) (x : List Int), j ≤ n ∧ iv = .int .i64 j ∧ rv = .int .i64 0 ∧ ev = .int .i64 0 ∧ Hid (Own .i64 3 w.heap.size wr bv x) ∧ Hid (Below w.heap.size w wr) ∧ Hid (nchk k (s.take j) = .inl x) ∧ x.length ≤ j) (fun _ _ _ iv _ => n - (intOf iv).toNat)
  case atStart => exact ⟨0, [], by omega, rfl, rfl, rfl, Own.nil _ _ _ _, Below.refl _ _, by show nchk k (s.take 0) = _; rfl, by simp⟩
  case round =>
    obtain ⟨j, x, hj, rfl, rfl, rfl, hown, hbel, hput, hxl⟩ := hrel
    by_cases hlt : j < n
    · rcases H1.out with hcc | ⟨b1, o1, rfl, hb1, hc⟩
      · omega
      have hb1' := hb1 (by have := HN.out; omega)
      have d1 := (hbel.out.cell (p := ⟨b1, o1 + j, none⟩) hb1').trans (hc j (by have := HN.out; omega))
      obtain ⟨p1, p2⟩ := putG_part (by have := HN.out; omega) hput.out
      obtain ⟨c0, c1⟩ := u8_at HU.out (j := j) (by have := HN.out; omega)
      clear hc hb1 hb1'
      generalize s.getD j 0 = c at d1 p1 p2 c0 c1
      have HCI := hid (inI_of (c := c) (by omega))
      cases hsc : narB k c with
      | false =>
        have HSC := hid hsc
        have HP := hid (show nchk k s = .inr j from p1 hsc)
        clear p1 p2 hsc
        go_wp2_with (go_at_call 12; refine (narHas k c _ HCI.out).mono ?_; rw [HSC.out]; rintro e w1 ⟨rfl, hb1⟩; have HB1 := hid (hbel.out.trans (hb1.mono hbel.out.size)); clear hb1)
        go_ret3
        exact ⟨_, by rw [HP.out]; rfl, by rw [HP.out]; exact Own.nil .i64 3 _ _, HB1.out⟩
      | true =>
        have HSC := hid hsc
        have HP := hid (show nchk k (s.take (j + 1)) = .inl (x ++ [c]) from p2 hsc)
        have HX := hid (show (x ++ [c]).length = x.length + 1 by simp)
        clear p1 p2 hsc
        go_wp2_with (first
          | (go_at_call 12; refine (narHas k c _ HCI.out).mono ?_; rw [HSC.out]; rintro e w1 ⟨rfl, hb1⟩; have HB1 := hid (hbel.out.trans (hb1.mono hbel.out.size)); have HW1 := hid (hown.out.below hb1); clear hb1)
          | (at_builtin; go_loud (refine wpList_app _ rfl _ _ 22 rfl .i64 w.heap.size 3 8 Try.underlying22 Try.infoI64 _ x [c] rfl (HW1.out.alloc _) _ rfl (one_sl (by first | simp | rfl)) (by unfold maxLen; simp; omega) (by simp; omega) (by have := HB1.out.size; simp; omega) ?_); intro v5 w5 ho5 hg5 hb5 hn5; have HO5 := hid ho5; have HB5 := hid ((HB1.out.alloc HB1.out.size _).trans hb5); clear ho5 hg5 hb5 hn5))
        go_roundw
        case rel => exact ⟨j + 1, x ++ [c], by omega, by go_num, rfl, rfl, HO5.out, HB5.out, HP.out, by rw [HX.out]; omega⟩
        case measure => simp [intOf]; omega
    · obtain rfl : j = n := by omega
      have HP := hid (show nchk k s = .inl x by rw [← hput.out, HN.out, List.take_length])
      go_wp2
      go_ret3
      exact ⟨_, by rw [HP.out]; rfl, by rw [HP.out]; exact hown.out, hbel.out⟩

set_option maxHeartbeats 4000000 in
theorem narGetNo (k : Int) (hk : narK k = false) (v : Value) (s : List Int) (w : World) (hs : Sl .u8 w v s) : Calls Try.prog 9 #[.int .i64 k, v] w fun e w' =>
    e = .returned (.tuple #[.slice none 0 0, .int .i64 0, .int .i64 18]) ∧ w = w' := by
  obtain ⟨a1, cap1, rfl⟩ := hs.form
  have HK := hid hk
  clear hk
  go_enter Try.func9, Try.ntmps9
  go_wp2_with (go_at_call 17; refine (narKind k _).mono ?_; rw [HK.out]; rintro e w1 ⟨rfl, rfl⟩)
  go_ret3
  exact ⟨rfl, rfl⟩

theorem narPutOk : NPutOk := by
  intro k v s w hs hi hl
  unfold nput
  cases hk : narK k with
  | true => exact narPutYes k hk v s w hs hi hl
  | false => exact (narPutNo k hk v s w hs).mono fun _ _ ⟨h, hw⟩ => ⟨_, h, hw ▸ Own.nil .u8 5 _ _, hw ▸ Below.refl _ _⟩
/-- as NGetOk, and its result is the call's own -/
theorem narGetOwn (k : Int) (v : Value) (b : List Int) (w : World) (hs : Sl .u8 w v b) (hu : U8 b) (hl : b.length ≤ 1000000) : Calls Try.prog 9 #[.int .i64 k, v] w fun e w' =>
    ∃ x, e = .returned (.tuple #[x, .int .i64 (nget k b).2.1, .int .i64 (nget k b).2.2]) ∧ Own .i64 3 w.heap.size w' x (nget k b).1 ∧ Below w.heap.size w w' := by
  unfold nget
  cases hk : narK k with
  | true => exact narGetYes k hk v b w hs hu hl
  | false => exact (narGetNo k hk v b w hs).mono fun _ _ ⟨h, hw⟩ => ⟨_, h, hw ▸ Own.nil .i64 3 _ _, hw ▸ Below.refl _ _⟩
theorem narGetOk : NGetOk := fun k v b w hs hu hl => (narGetOwn k v b w hs hu hl).mono fun _ _ ⟨x, h1, h2, h3⟩ => ⟨x, h1, h2.sl, h3⟩
end Go.Proofs.Ytelpbjiohkeobaa
