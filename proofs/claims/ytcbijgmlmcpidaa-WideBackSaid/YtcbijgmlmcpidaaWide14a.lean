/- Contracts of package wide's small functions: isSize, hasRoom, appendNumber, number. No conditions. -/
import Derived.Test.YtcbijgmlmcpidaaWideSpec
import Derived.Test.YtcbijgmlmcpidaaUcd1
import Derived.Test.YtcbijgmlmcpidaaKeep
import Derived.Test.YtcbijgmlmcpidaaKeepInts
namespace Go.Proofs.Ytcbijgmlmcpidaa
open Go.RowKit

theorem wideSize (k : Int) (w : World) : Calls Try.prog 14 #[.int .i64 k] w fun e w' => e = .returned (.bool (decide (k = 2 ∨ k = 4))) ∧ w = w' := by
  by_cases h2 : k = 2
  · subst h2
    go_enter Try.func14, Try.ntmps14
    go_wp2
    go_ret
    exact ⟨rfl, rfl⟩
  by_cases h4 : k = 4
  · subst h4
    go_enter Try.func14, Try.ntmps14
    go_wp2
    go_ret
    exact ⟨rfl, rfl⟩
  · have HR := hid (show decide (k = 2 ∨ k = 4) = false from decide_eq_false (by omega))
    have e2 : (k == 2) = false := by simpa using h2
    have e4 : (k == 4) = false := by simpa using h4
    go_enter Try.func14, Try.ntmps14
    go_wp2
    go_ret
    exact ⟨by rw [HR.out]; rfl, rfl⟩

theorem wideRoom (f : Bool) (c : Int) (w : World) : Calls Try.prog 15 #[.int .i64 c, .int .i64 ((wk f : Nat) : Int)] w fun e w' => e = .returned (.bool (wok f c)) ∧ w = w' := by
  cases hs : scalarB c with
  | false =>
    have HS := hid hs
    have HR := hid (show wok f c = false by unfold wok; rw [hs]; rfl)
    clear hs
    go_enter Try.func15, Try.ntmps15
    go_wp2_with (go_at_call 18; refine (ucdScalar c _).mono ?_; rw [HS.out]; rintro e w1 ⟨rfl, rfl⟩)
    go_ret
    exact ⟨by rw [HR.out]; rfl, rfl⟩
  | true =>
    have HS := hid hs
    cases f with
    | true =>
      have HR := hid (show wok true c = true by unfold wok; rw [hs]; rfl)
      clear hs
      show Calls _ _ #[.int .i64 c, .int .i64 4] _ _
      go_enter Try.func15, Try.ntmps15
      go_wp2_with (go_at_call 18; refine (ucdScalar c _).mono ?_; rw [HS.out]; rintro e w1 ⟨rfl, rfl⟩)
      go_ret
      exact ⟨by rw [HR.out]; rfl, rfl⟩
    | false =>
      by_cases hc : c < 65536
      · have HR := hid (show wok false c = true by unfold wok; rw [hs]; simp; omega)
        clear hs
        show Calls _ _ #[.int .i64 c, .int .i64 2] _ _
        go_enter Try.func15, Try.ntmps15
        go_wp2_with (go_at_call 18; refine (ucdScalar c _).mono ?_; rw [HS.out]; rintro e w1 ⟨rfl, rfl⟩)
        go_ret
        exact ⟨by rw [HR.out]; rfl, rfl⟩
      · have HR := hid (show wok false c = false by unfold wok; rw [hs]; simp; omega)
        have hd : decide (c < 65536) = false := decide_eq_false (by omega)
        clear hs
        show Calls _ _ #[.int .i64 c, .int .i64 2] _ _
        go_enter Try.func15, Try.ntmps15
        go_wp2_with (go_at_call 18; refine (ucdScalar c _).mono ?_; rw [HS.out]; rintro e w1 ⟨rfl, rfl⟩)
        go_ret
        exact ⟨by rw [HR.out, ← hd]; rfl, rfl⟩

/-- the n lowest bytes of a number, the greatest first -/
def dg (c : Int) : Nat → List Int
  | 0 => []
  | n + 1 => c / 256 ^ n % 256 :: dg c n
theorem dg_wenc {f : Bool} {c : Int} (h : wok f c = true) : dg c (wk f) = wenc f c := by
  obtain ⟨-, h0, h1, h2⟩ := wok_parts h
  cases f with
  | true =>
    show [c / 16777216 % 256, c / 65536 % 256, c / 256 % 256, c / 1 % 256] = [0, c / 65536, c / 256 % 256, c % 256]
    congr 1
    · omega
    · congr 1
      · omega
      · congr 1; congr 1; omega
  | false =>
    have h2 := h2 rfl
    show [c / 256 % 256, c / 1 % 256] = [c / 256, c % 256]
    congr 1
    · omega
    · congr 1; omega

set_option maxRecDepth 10000 in
set_option maxHeartbeats 4000000 in
theorem wideAppend (f : Bool) (v : Value) (x : List Int) (c : Int) (base : Nat) (w : World) (h : wok f c = true) (ho : Own .u8 5 base w v x) (hb : base ≤ w.heap.size) (hl : x.length ≤ 1000000) :
    Calls Try.prog 16 #[v, .int .i64 c, .int .i64 ((wk f : Nat) : Int)] w fun e w' => ∃ y, e = .returned y ∧ Own .u8 5 base w' y (x ++ wenc f c) ∧ Below base w w' := by
  have HD := hid (dg_wenc h)
  obtain ⟨-, h0, hm, -⟩ := wok_parts h
  have HOW := hid ho
  obtain ⟨k, hk⟩ : ∃ k, k = wk f := ⟨_, rfl⟩
  have hk4 : k ≤ 4 := by rw [hk]; cases f <;> decide
  have hk1 : 1 ≤ k := by rw [hk]; cases f <;> decide
  rw [← hk] at HD ⊢
  have ek : (k : Int) - 1 = ((k - 1 : Nat) : Int) := by omega
  clear h ho hk
  go_enter Try.func16, Try.ntmps16
  go_wp2
  go_loopw [0, 7] (fun bv iv wr => ∃ (j : Nat) (y : List Int), j ≤ k ∧ iv = .int .i64 ((j : Int) - 1) ∧ Hid (Own .u8 5 base wr bv y) ∧ Hid (Below base w wr) ∧ Hid (y ++ dg c j = x ++ dg c k) ∧ y.length + j = x.length + k) (fun _ iv _ => (intOf iv + 1).toNat)
  case atStart => exact ⟨k, x, by omega, by go_num, HOW.out, Below.refl _ _, by trivial, rfl⟩
  case round =>
    obtain ⟨j, y, hj, rfl, hown, hbel, hput, hyl⟩ := hrel
    cases j with
    | zero =>
      have HR := hid (show y = x ++ wenc f c by have := hput.out; rw [HD.out] at this; simpa [dg] using this)
      go_wp2
      go_ret
      exact ⟨_, rfl, by rw [← HR.out]; exact hown.out, hbel.out⟩
    | succ i =>
      have HP := hid (show (y ++ [c / 256 ^ i % 256]) ++ dg c i = x ++ dg c k by rw [← hput.out]; simp [dg])
      have HX := hid (show (y ++ [c / 256 ^ i % 256]).length = y.length + 1 by simp)
      rcases (show i = 0 ∨ i = 1 ∨ i = 2 ∨ i = 3 by omega) with rfl | rfl | rfl | rfl
      · have HQ := hid (show (y ++ [c % 256]) ++ dg c 0 = x ++ dg c k by have := HP.out; rw [show c / 256 ^ 0 = c by simp] at this; exact this)
        have HY := hid (show (y ++ [c % 256]).length = y.length + 1 by simp)
        go_wp2_with (at_builtin; go_loud (refine wpList_app _ rfl _ _ 23 rfl .u8 base 5 1 Try.underlying23 Try.infoU8 _ y [c % 256] rfl (hown.out.alloc _) _ rfl (lit_sl (by first | simp | rfl) rfl rfl (by simp)) (by unfold maxLen; simp; omega) (by simp; omega) (by have := hbel.out.size; simp; omega) ?_); intro v5 w5 ho5 hg5 hb5 hn5; have HO5 := hid ho5; have HB5 := hid ((hbel.out.alloc (Nat.le_trans hb hbel.out.size) _).trans hb5); clear ho5 hg5 hb5 hn5)
        go_roundw
        case rel => exact ⟨0, y ++ [c % 256], by omega, by go_num, HO5.out, HB5.out, HQ.out, by rw [HY.out]; omega⟩
        case measure => simp [intOf]
      · have HQ := hid (show (y ++ [c / 256 % 256]) ++ dg c 1 = x ++ dg c k from HP.out)
        have HY := hid (show (y ++ [c / 256 % 256]).length = y.length + 1 by simp)
        go_wp2_with (at_builtin; go_loud (refine wpList_app _ rfl _ _ 23 rfl .u8 base 5 1 Try.underlying23 Try.infoU8 _ y [c / 256 % 256] rfl (hown.out.alloc _) _ rfl (lit_sl (by first | simp | rfl) rfl rfl (by simp)) (by unfold maxLen; simp; omega) (by simp; omega) (by have := hbel.out.size; simp; omega) ?_); intro v5 w5 ho5 hg5 hb5 hn5; have HO5 := hid ho5; have HB5 := hid ((hbel.out.alloc (Nat.le_trans hb hbel.out.size) _).trans hb5); clear ho5 hg5 hb5 hn5)
        go_roundw
        case rel => exact ⟨1, y ++ [c / 256 % 256], by omega, by go_num, HO5.out, HB5.out, HQ.out, by rw [HY.out]; omega⟩
        case measure => simp [intOf]
      · have HQ := hid (show (y ++ [c / 65536]) ++ dg c 2 = x ++ dg c k by have := HP.out; rw [show c / 256 ^ 2 % 256 = c / 65536 by omega] at this; exact this)
        have HY := hid (show (y ++ [c / 65536]).length = y.length + 1 by simp)
        go_wp2_with (at_builtin; go_loud (refine wpList_app _ rfl _ _ 23 rfl .u8 base 5 1 Try.underlying23 Try.infoU8 _ y [c / 65536] rfl (hown.out.alloc _) _ rfl (lit_sl (by first | simp | rfl) rfl rfl (by simp)) (by unfold maxLen; simp; omega) (by simp; omega) (by have := hbel.out.size; simp; omega) ?_); intro v5 w5 ho5 hg5 hb5 hn5; have HO5 := hid ho5; have HB5 := hid ((hbel.out.alloc (Nat.le_trans hb hbel.out.size) _).trans hb5); clear ho5 hg5 hb5 hn5)
        go_roundw
        case rel => exact ⟨2, y ++ [c / 65536], by omega, by go_num, HO5.out, HB5.out, HQ.out, by rw [HY.out]; omega⟩
        case measure => simp [intOf]
      · have HQ := hid (show (y ++ [c / 16777216]) ++ dg c 3 = x ++ dg c k by have := HP.out; rw [show c / 256 ^ 3 % 256 = c / 16777216 by omega] at this; exact this)
        have HY := hid (show (y ++ [c / 16777216]).length = y.length + 1 by simp)
        go_wp2_with (at_builtin; go_loud (refine wpList_app _ rfl _ _ 23 rfl .u8 base 5 1 Try.underlying23 Try.infoU8 _ y [c / 16777216] rfl (hown.out.alloc _) _ rfl (lit_sl (by first | simp | rfl) rfl rfl (by simp)) (by unfold maxLen; simp; omega) (by simp; omega) (by have := hbel.out.size; simp; omega) ?_); intro v5 w5 ho5 hg5 hb5 hn5; have HO5 := hid ho5; have HB5 := hid ((hbel.out.alloc (Nat.le_trans hb hbel.out.size) _).trans hb5); clear ho5 hg5 hb5 hn5)
        go_roundw
        case rel => exact ⟨3, y ++ [c / 16777216], by omega, by go_num, HO5.out, HB5.out, HQ.out, by rw [HY.out]; omega⟩
        case measure => simp [intOf]
set_option maxRecDepth 10000 in
set_option maxHeartbeats 4000000 in
theorem wideNumber (v : Value) (b : List Int) (w : World) (hs : Sl .u8 w v b) (hu : U8 b) (hl : b.length ≤ 4) : Calls Try.prog 17 #[v] w fun e w' => e = .returned (.int .i64 (wval b)) ∧ Below w.heap.size w w' := by
  obtain ⟨a1, cap1, rfl, q1, -, h1⟩ := hs
  obtain ⟨n, hn⟩ : ∃ n, n = b.length := ⟨_, rfl⟩
  have HN := hid hn
  have H1 := hid h1
  rw [← hn] at q1 hl ⊢
  clear h1 hn
  have HUB := hid (fun k => U8.get hu k)
  go_enter Try.func17, Try.ntmps17
  go_wp2
  go_loopw [3, 8] (fun cv kv wq => ∃ (k : Nat) (c : Int), k ≤ n ∧ kv = .int .i64 k ∧ cv = .int .i64 c ∧ w = wq ∧ Hid (wval (b.take k) = c) ∧ 0 ≤ c ∧ Hid ((k = 0 ∧ c = 0) ∨ (k = 1 ∧ c < 256) ∨ (k = 2 ∧ c < 65536) ∨ (k = 3 ∧ c < 16777216) ∨ (k = 4 ∧ c < 4294967296))) (fun _ kv _ => n - (intOf kv).toNat)
  case atStart => exact ⟨0, 0, Nat.zero_le _, rfl, rfl, rfl, rfl, Int.le_refl _, .inl ⟨rfl, rfl⟩⟩
  case round =>
    obtain ⟨k, c, hk, rfl, rfl, rfl, hval, hc0, hbnd⟩ := hrel
    by_cases hlt : k < n
    · rcases H1.out with hcc | ⟨b1, o1, rfl, hb1, hc⟩
      · omega
      have d1 := hc k (by have := HN.out; omega)
      have hx := HUB.out k
      have HT := hid (show b.take (k + 1) = b.take k ++ [b.getD k 0] by
        have hkb : k < b.length := by have := HN.out; omega
        rw [List.take_add_one, List.getD_eq_getElem?_getD, List.getElem?_eq_getElem hkb]
        rfl)
      generalize b.getD k 0 = x at d1 hx HT
      have HV := hid (show wval (b.take (k + 1)) = 256 * c + x by rw [HT.out]; simp only [wval, List.foldl_append, List.foldl_cons, List.foldl_nil]; rw [show List.foldl (fun c x => 256 * c + x) 0 (b.take k) = c from hval.out])
      have hcb : c < 16777216 := by have := hbnd.out; omega
      have e3 := or_i64_8 c x hc0 (by omega) (by omega) (by omega)
      clear hc hb1 HT
      go_wp2
      go_roundw
      case rel => exact ⟨k + 1, 256 * c + x, by omega, by go_num, by congr 1; omega, by trivial, HV.out, by omega, by show _ ∨ _; have := hbnd.out; omega⟩
      case measure => simp [intOf]; omega
    · obtain rfl : k = n := by omega
      have HV := hid (show wval b = c by rw [← hval.out, HN.out, List.take_length])
      go_wp2
      go_ret
      exact ⟨by rw [HV.out]; rfl, Below.refl _ _⟩
end Go.Proofs.Ytcbijgmlmcpidaa
