/- Several texts in one: Wide14a, Wide14b. -/
import Derived.Test.YtildhebaikeknaaGreatPk19
import Derived.Test.YtildhebaikeknaaGreatPk2
import Derived.Test.YtildhebaikeknaaGreatPk1
import Derived.BigQuiet
/-! Wide14a -/
namespace Go.Proofs.YtildhebaikeknaaGreat
open Go.RowKit

theorem wideSize (k : Int) (w : World) : Calls Tryz.prog 48 #[.int .i64 k] w fun e w' => e = .returned (.bool (decide (k = 2 ∨ k = 4))) ∧ w = w' := by
  by_cases h2 : k = 2
  · subst h2
    go_enter Tryz.func48, Tryz.ntmps48
    go_wp2
    go_ret
    exact ⟨rfl, rfl⟩
  by_cases h4 : k = 4
  · subst h4
    go_enter Tryz.func48, Tryz.ntmps48
    go_wp2
    go_ret
    exact ⟨rfl, rfl⟩
  · have HR := hid (show decide (k = 2 ∨ k = 4) = false from decide_eq_false (by omega))
    have e2 : (k == 2) = false := by simpa using h2
    have e4 : (k == 4) = false := by simpa using h4
    go_enter Tryz.func48, Tryz.ntmps48
    go_wp2
    go_ret
    exact ⟨by rw [HR.out]; rfl, rfl⟩

theorem wideRoom (f : Bool) (c : Int) (w : World) : Calls Tryz.prog 49 #[.int .i64 c, .int .i64 ((wk f : Nat) : Int)] w fun e w' => e = .returned (.bool (wok f c)) ∧ w = w' := by
  cases hs : scalarB c with
  | false =>
    have HS := hid hs
    have HR := hid (show wok f c = false by unfold wok; rw [hs]; rfl)
    clear hs
    go_enter Tryz.func49, Tryz.ntmps49
    go_wp2_with (go_at_call 43; refine (ucdScalar c _).mono ?_; rw [HS.out]; rintro e w1 ⟨rfl, rfl⟩)
    go_ret
    exact ⟨by rw [HR.out]; rfl, rfl⟩
  | true =>
    have HS := hid hs
    cases f with
    | true =>
      have HR := hid (show wok true c = true by unfold wok; rw [hs]; rfl)
      clear hs
      show Calls _ _ #[.int .i64 c, .int .i64 4] _ _
      go_enter Tryz.func49, Tryz.ntmps49
      go_wp2_with (go_at_call 43; refine (ucdScalar c _).mono ?_; rw [HS.out]; rintro e w1 ⟨rfl, rfl⟩)
      go_ret
      exact ⟨by rw [HR.out]; rfl, rfl⟩
    | false =>
      by_cases hc : c < 65536
      · have HR := hid (show wok false c = true by unfold wok; rw [hs]; simp; omega)
        clear hs
        show Calls _ _ #[.int .i64 c, .int .i64 2] _ _
        go_enter Tryz.func49, Tryz.ntmps49
        go_wp2_with (go_at_call 43; refine (ucdScalar c _).mono ?_; rw [HS.out]; rintro e w1 ⟨rfl, rfl⟩)
        go_ret
        exact ⟨by rw [HR.out]; rfl, rfl⟩
      · have HR := hid (show wok false c = false by unfold wok; rw [hs]; simp; omega)
        have hd : decide (c < 65536) = false := decide_eq_false (by omega)
        clear hs
        show Calls _ _ #[.int .i64 c, .int .i64 2] _ _
        go_enter Tryz.func49, Tryz.ntmps49
        go_wp2_with (go_at_call 43; refine (ucdScalar c _).mono ?_; rw [HS.out]; rintro e w1 ⟨rfl, rfl⟩)
        go_ret
        exact ⟨by rw [HR.out, ← hd]; rfl, rfl⟩

/-- the n lowest bytes of a number, the greatest first -/
def dg (c : Int) : Nat → List Int
  | 0 => []
  | n + 1 => c / 256 ^ n % 256 :: dg c n
theorem dg_wenc {f : Bool} {c : Int} (h : wok f c = true) : dg c (wk f) = wenc f c := by
  obtain ⟨-, h0, h1, h2⟩ := wok_parts h
  cases f with
  | true =>
    show [c / 16777216 % 256, c / 65536 % 256, c / 256 % 256, c / 1 % 256] = [0, c / 65536, c / 256 % 256, c % 256]
    congr 1
    · omega
    · congr 1
      · omega
      · congr 1; congr 1; omega
  | false =>
    have h2 := h2 rfl
    show [c / 256 % 256, c / 1 % 256] = [c / 256, c % 256]
    congr 1
    · omega
    · congr 1; omega

set_option maxRecDepth 10000 in
set_option maxHeartbeats 4000000 in
theorem wideAppend (f : Bool) (v : Value) (x : List Int) (c : Int) (base : Nat) (w : World) (h : wok f c = true) (ho : Own .u8 5 base w v x) (hb : base ≤ w.heap.size) (hl : x.length ≤ 1000000) :
    Calls Tryz.prog 50 #[v, .int .i64 c, .int .i64 ((wk f : Nat) : Int)] w fun e w' => ∃ y, e = .returned y ∧ Own .u8 5 base w' y (x ++ wenc f c) ∧ Below base w w' := by
  have HD := hid (dg_wenc h)
  obtain ⟨-, h0, hm, -⟩ := wok_parts h
  have HOW := hid ho
  obtain ⟨k, hk⟩ : ∃ k, k = wk f := ⟨_, rfl⟩
  have hk4 : k ≤ 4 := by rw [hk]; cases f <;> decide
  have hk1 : 1 ≤ k := by rw [hk]; cases f <;> decide
  rw [← hk] at HD ⊢
  have ek : (k : Int) - 1 = ((k - 1 : Nat) : Int) := by omega
  clear h ho hk
  go_enter Tryz.func50, Tryz.ntmps50
  go_wp2
  go_loopw [0, 7] (fun bv iv wr => ∃ (j : Nat) (y : List Int), j ≤ k ∧ iv = .int .i64 ((j : Int) - 1) ∧ Hid (Own .u8 5 base wr bv y) ∧ Hid (Below base w wr) ∧ Hid (y ++ dg c j = x ++ dg c k) ∧ y.length + j = x.length + k) (fun _ iv _ => (intOf iv + 1).toNat)
  case atStart => exact ⟨k, x, by omega, by go_num, HOW.out, Below.refl _ _, by trivial, rfl⟩
  case round =>
    obtain ⟨j, y, hj, rfl, hown, hbel, hput, hyl⟩ := hrel
    cases j with
    | zero =>
      have HR := hid (show y = x ++ wenc f c by have := hput.out; rw [HD.out] at this; simpa [dg] using this)
      go_wp2
      go_ret
      exact ⟨_, rfl, by rw [← HR.out]; exact hown.out, hbel.out⟩
    | succ i =>
      have HP := hid (show (y ++ [c / 256 ^ i % 256]) ++ dg c i = x ++ dg c k by rw [← hput.out]; simp [dg])
      have HX := hid (show (y ++ [c / 256 ^ i % 256]).length = y.length + 1 by simp)
      rcases (show i = 0 ∨ i = 1 ∨ i = 2 ∨ i = 3 by omega) with rfl | rfl | rfl | rfl
      · have HQ := hid (show (y ++ [c % 256]) ++ dg c 0 = x ++ dg c k by have := HP.out; rw [show c / 256 ^ 0 = c by simp] at this; exact this)
        have HY := hid (show (y ++ [c % 256]).length = y.length + 1 by simp)
        go_wp2_with (at_builtin; go_loud (refine wpList_app _ rfl _ _ 42 rfl .u8 base 5 1 Tryz.underlying42 Tryz.infoU8 _ y [c % 256] rfl (hown.out.alloc _) _ rfl (lit_sl (by first | simp | rfl) rfl rfl (by simp)) (by unfold maxLen; simp; omega) (by simp; omega) (by have := hbel.out.size; simp; omega) ?_); intro v5 w5 ho5 hg5 hb5 hn5; have HO5 := hid ho5; have HB5 := hid ((hbel.out.alloc (Nat.le_trans hb hbel.out.size) _).trans hb5); clear ho5 hg5 hb5 hn5)
        go_roundw
        case rel => exact ⟨0, y ++ [c % 256], by omega, by go_num, HO5.out, HB5.out, HQ.out, by rw [HY.out]; omega⟩
        case measure => simp [intOf]
      · have HQ := hid (show (y ++ [c / 256 % 256]) ++ dg c 1 = x ++ dg c k from HP.out)
        have HY := hid (show (y ++ [c / 256 % 256]).length = y.length + 1 by simp)
        go_wp2_with (at_builtin; go_loud (refine wpList_app _ rfl _ _ 42 rfl .u8 base 5 1 Tryz.underlying42 Tryz.infoU8 _ y [c / 256 % 256] rfl (hown.out.alloc _) _ rfl (lit_sl (by first | simp | rfl) rfl rfl (by simp)) (by unfold maxLen; simp; omega) (by simp; omega) (by have := hbel.out.size; simp; omega) ?_); intro v5 w5 ho5 hg5 hb5 hn5; have HO5 := hid ho5; have HB5 := hid ((hbel.out.alloc (Nat.le_trans hb hbel.out.size) _).trans hb5); clear ho5 hg5 hb5 hn5)
        go_roundw
        case rel => exact ⟨1, y ++ [c / 256 % 256], by omega, by go_num, HO5.out, HB5.out, HQ.out, by rw [HY.out]; omega⟩
        case measure => simp [intOf]
      · have HQ := hid (show (y ++ [c / 65536]) ++ dg c 2 = x ++ dg c k by have := HP.out; rw [show c / 256 ^ 2 % 256 = c / 65536 by omega] at this; exact this)
        have HY := hid (show (y ++ [c / 65536]).length = y.length + 1 by simp)
        go_wp2_with (at_builtin; go_loud (refine wpList_app _ rfl _ _ 42 rfl .u8 base 5 1 Tryz.underlying42 Tryz.infoU8 _ y [c / 65536] rfl (hown.out.alloc _) _ rfl (lit_sl (by first | simp | rfl) rfl rfl (by simp)) (by unfold maxLen; simp; omega) (by simp; omega) (by have := hbel.out.size; simp; omega) ?_); intro v5 w5 ho5 hg5 hb5 hn5; have HO5 := hid ho5; have HB5 := hid ((hbel.out.alloc (Nat.le_trans hb hbel.out.size) _).trans hb5); clear ho5 hg5 hb5 hn5)
        go_roundw
        case rel => exact ⟨2, y ++ [c / 65536], by omega, by go_num, HO5.out, HB5.out, HQ.out, by rw [HY.out]; omega⟩
        case measure => simp [intOf]
      · have HQ := hid (show (y ++ [c / 16777216]) ++ dg c 3 = x ++ dg c k by have := HP.out; rw [show c / 256 ^ 3 % 256 = c / 16777216 by omega] at this; exact this)
        have HY := hid (show (y ++ [c / 16777216]).length = y.length + 1 by simp)
        go_wp2_with (at_builtin; go_loud (refine wpList_app _ rfl _ _ 42 rfl .u8 base 5 1 Tryz.underlying42 Tryz.infoU8 _ y [c / 16777216] rfl (hown.out.alloc _) _ rfl (lit_sl (by first | simp | rfl) rfl rfl (by simp)) (by unfold maxLen; simp; omega) (by simp; omega) (by have := hbel.out.size; simp; omega) ?_); intro v5 w5 ho5 hg5 hb5 hn5; have HO5 := hid ho5; have HB5 := hid ((hbel.out.alloc (Nat.le_trans hb hbel.out.size) _).trans hb5); clear ho5 hg5 hb5 hn5)
        go_roundw
        case rel => exact ⟨3, y ++ [c / 16777216], by omega, by go_num, HO5.out, HB5.out, HQ.out, by rw [HY.out]; omega⟩
        case measure => simp [intOf]
end Go.Proofs.YtildhebaikeknaaGreat

/-! Wide14b -/
namespace Go.Proofs.YtildhebaikeknaaGreat
open Go.RowKit

set_option maxRecDepth 10000 in
set_option maxHeartbeats 4000000 in
theorem widePut (f : Bool) (v : Value) (s : List Int) (w : World) (hs : Sl .i64 w v s) (hl : s.length ≤ 100000) : Calls Tryz.prog 34 #[v, .int .i64 ((wk f : Nat) : Int)] w fun e w' =>
    ∃ x, e = .returned (.tuple #[x, .int .i64 (outAt (wputB f s)), .int .i64 (outE 14 (wputB f s))]) ∧ Own .u8 5 w.heap.size w' x (outL (wputB f s)) ∧ Below w.heap.size w w' := by
  have HK := hid (show decide (((wk f : Nat) : Int) = 2 ∨ ((wk f : Nat) : Int) = 4) = true by cases f <;> decide)
  have HSZ := hid (fun v x c base w h ho hb hl => wideAppend f v x c base w h ho hb hl)
  have HRM := hid (fun c w => wideRoom f c w)
  have HLE := hid (fun c (h : wok f c = true) => show (wenc f c).length ≤ 4 by rw [(wenc_get h).1]; cases f <;> decide)
  obtain ⟨k, hk⟩ : ∃ k, k = wk f := ⟨_, rfl⟩
  rw [← hk] at HK HSZ HRM ⊢
  clear hk
  obtain ⟨a1, cap1, rfl, q1, -, h1⟩ := hs
  obtain ⟨n, hn⟩ : ∃ n, n = s.length := ⟨_, rfl⟩
  have HN := hid hn
  have H1 := hid h1
  rw [← hn] at q1 hl ⊢
  clear h1 hn
  go_enter Tryz.func34, Tryz.ntmps34
  go_wp2_with (go_at_call 48; refine (wideSize _ _).mono ?_; rw [HK.out]; rintro e w1 ⟨rfl, rfl⟩)
  go_loopw [4, 5, 6, 14] (fun bv rv ev iv wr => ∃ (j : Nat) (x : List Int), j ≤ n ∧ iv = .int .i64 j ∧ rv = .int .i64 0 ∧ ev = .int .i64 0 ∧ Hid (Own .u8 5 w.heap.size wr bv x) ∧ Hid (Below w.heap.size w wr) ∧ Hid (wputB f (s.take j) = .inl x) ∧ x.length ≤ 4 * j) (fun _ _ _ iv _ => n - (intOf iv).toNat)
  case atStart => exact ⟨0, [], by omega, rfl, rfl, rfl, Own.nil _ _ _ _, Below.refl _ _, by show wputB f (s.take 0) = _; rfl, by simp⟩
  case round =>
    obtain ⟨j, x, hj, rfl, rfl, rfl, hown, hbel, hput, hxl⟩ := hrel
    by_cases hlt : j < n
    · rcases H1.out with hcc | ⟨b1, o1, rfl, hb1, hc⟩
      · omega
      have hb1' := hb1 (by have := HN.out; omega)
      have d1 := (hbel.out.cell (p := ⟨b1, o1 + j, none⟩) hb1').trans (hc j (by have := HN.out; omega))
      obtain ⟨p1, p2⟩ := putG_part (by have := HN.out; omega) hput.out
      clear hc hb1 hb1'
      generalize s.getD j 0 = c at d1 p1 p2
      cases hsc : wok f c with
      | false =>
        have HSC := hid hsc
        have HP := hid (show wputB f s = .inr j from p1 hsc)
        clear p1 p2 hsc
        go_wp2_with (go_at_call 49; refine (HRM.out c _).mono ?_; rw [HSC.out]; rintro e w1 ⟨rfl, rfl⟩)
        go_ret3
        exact ⟨_, by rw [HP.out]; rfl, by rw [HP.out]; exact Own.nil .u8 5 _ _, hbel.out⟩
      | true =>
        have HSC := hid hsc
        have HP := hid (show wputB f (s.take (j + 1)) = .inl (x ++ wenc f c) from p2 hsc)
        have hel := HLE.out c hsc
        have HX := hid (show (x ++ wenc f c).length = x.length + (wenc f c).length by simp)
        clear p1 p2 hsc
        go_wp2_with (first
          | (go_at_call 49; refine (HRM.out c _).mono ?_; rw [HSC.out]; rintro e w1 ⟨rfl, rfl⟩)
          | (go_at_call 50; refine (HSZ.out _ x c w.heap.size _ HSC.out hown.out hbel.out.size (by omega)).mono ?_; rintro e w1 ⟨v1, rfl, ho1, hb1⟩; have HO5 := hid ho1; have HB5 := hid (hbel.out.trans hb1); clear ho1 hb1))
        go_roundw
        case rel => exact ⟨j + 1, x ++ wenc f c, by omega, by go_num, rfl, rfl, HO5.out, HB5.out, HP.out, by rw [HX.out]; omega⟩
        case measure => simp [intOf]; omega
    · obtain rfl : j = n := by omega
      have HP := hid (show wputB f s = .inl x by rw [← hput.out, HN.out, List.take_length])
      go_wp2
      go_ret3
      exact ⟨_, by rw [HP.out]; rfl, by rw [HP.out]; exact hown.out, hbel.out⟩

set_option maxHeartbeats 4000000 in
theorem widePutNo (v : Value) (s : List Int) (k : Int) (w : World) (hs : Sl .i64 w v s) (h2 : k ≠ 2) (h4 : k ≠ 4) : Calls Tryz.prog 34 #[v, .int .i64 k] w fun e w' =>
    e = .returned (.tuple #[.slice none 0 0, .int .i64 0, .int .i64 1]) ∧ w = w' := by
  obtain ⟨a1, cap1, rfl⟩ := hs.form
  have HK := hid (show decide (k = 2 ∨ k = 4) = false from decide_eq_false (by omega))
  go_enter Tryz.func34, Tryz.ntmps34
  go_wp2_with (go_at_call 48; refine (wideSize _ _).mono ?_; rw [HK.out]; rintro e w1 ⟨rfl, rfl⟩)
  go_ret3
  exact ⟨rfl, rfl⟩
theorem widePutOk : WPutOk := by
  intro v s size w hs _ hl
  by_cases h2 : size = 2
  · subst h2
    exact widePut false v s w hs hl
  by_cases h4 : size = 4
  · subst h4
    exact widePut true v s w hs hl
  · unfold wput
    rw [if_neg h2, if_neg h4]
    exact (widePutNo v s size w hs h2 h4).mono fun _ _ ⟨h, hw⟩ => ⟨_, h, hw ▸ Own.nil .u8 5 _ _, hw ▸ Below.refl _ _⟩
end Go.Proofs.YtildhebaikeknaaGreat
