/- The walk of SetsBegin: it answers true and leaves what was there as it was, where package sets keeps its contracts. -/
import Derived.Test.YtgdbjbkmkdkhhaaSetsWakes
namespace Go.Proofs.Ytgdbjbkmkdkhhaa
open Go.RowKit

theorem beg1 (xs : List Int) (x : Int) : cmpS xs (xs ++ [x]) = -1 := by
  have := cmpS_pre xs [] [x]
  rw [List.append_nil] at this
  rw [this]; rfl
theorem beg2 (xs : List Int) (x : Int) : cmpS (xs ++ [x]) xs = 1 := by
  have := cmpS_turn xs (xs ++ [x])
  rw [beg1] at this
  rw [this]; rfl
theorem beg3 (xs ys : List Int) (x y : Int) : cmpS (xs ++ [x]) (xs ++ [y] ++ ys) = if x < y then -1 else if y < x then 1 else if 0 < ys.length then -1 else 0 := by
  rw [List.append_assoc, cmpS_pre]
  show cmpS [x] (y :: ys) = _
  rw [cmpS]
  split
  · rfl
  · split
    · rfl
    · cases ys with
      | nil => rfl
      | cons z zs => simp [cmpS]

set_option maxHeartbeats 2000000 in
theorem walkBegin (hC : CompareOk) (hO : SortedOk) (hS : SortOk) (hP : PlaceOk) (va vb : Value) (xs ys : List Int) (x y : Int) (w : World) (ha : Sl .u8 w va xs) (hb : Sl .u8 w vb ys) (hua : U8 xs) (hub : U8 ys) (hx : 0 ≤ x ∧ x ≤ 255) (hy : 0 ≤ y ∧ y ≤ 255) :
    Calls Try.prog 6 #[va, vb, .int .u8 x, .int .u8 y] w fun e w' => e = .returned (.bool true) ∧ Below w.heap.size w w' := by
  have HA := hid ha
  have HB := hid hb
  have ma := ha.len
  have mb := hb.len
  obtain ⟨a1, c1, hv1⟩ := ha.form
  obtain ⟨a2, c2, hv2⟩ := hb.form
  have UA := hid hua
  have UC := hid (hua.append (U8.cons hx U8.nil))
  have UD := hid ((hua.append (U8.cons hy U8.nil)).append hub)
  clear ha hb hua hub
  have E1 := hid (beg1 xs x)
  have E2 := hid (beg2 xs x)
  have E3 := hid (beg3 xs ys x y)
  subst hv1 hv2
  obtain ⟨n1, hn1⟩ : ∃ n, n = xs.length := ⟨_, rfl⟩
  obtain ⟨n2, hn2⟩ : ∃ n, n = ys.length := ⟨_, rfl⟩
  rw [← hn1] at HA ma ⊢
  rw [← hn2] at HB mb E3 ⊢
  by_cases hl : 100 < n1 ∨ 100 < n2
  · go_enter Try.func6, Try.ntmps6
    rcases Nat.lt_or_ge 100 n1 with h1 | h1
    · go_wp2
      all_goals (go_ret; exact ⟨rfl, Below.refl _ _⟩)
    · have h2 : 100 < n2 := by omega
      go_wp2
      all_goals (go_ret; exact ⟨rfl, Below.refl _ _⟩)
  · have h1 : n1 ≤ 100 := by omega
    have h2 : n2 ≤ 100 := by omega
    have HN1 := hid hn1
    have HN2 := hid hn2
    have L1 : xs.length ≤ 100 := by omega
    have L2 : ys.length ≤ 100 := by omega
    clear hn1 hn2
    have hcase : ∃ c : Int, Hid (cmpS (xs ++ [x]) (xs ++ [y] ++ ys) = c) ∧ ((x < y ∧ c = -1) ∨ (y < x ∧ c = 1) ∨ ((y ≤ x ∧ x ≤ y) ∧ 0 < n2 ∧ c = -1) ∨ ((y ≤ x ∧ x ≤ y) ∧ n2 = 0 ∧ c = 0)) := by
      refine ⟨_, hid E3.out, ?_⟩
      rcases Int.lt_trichotomy x y with h | h | h
      · exact .inl ⟨h, by rw [if_pos h]⟩
      · rcases Nat.eq_zero_or_pos n2 with h0 | h0
        · exact .inr (.inr (.inr ⟨by omega, h0, by rw [if_neg (by omega), if_neg (by omega), if_neg (by omega)]⟩))
        · exact .inr (.inr (.inl ⟨by omega, h0, by rw [if_neg (by omega), if_neg (by omega), if_pos h0]⟩))
      · exact .inr (.inl ⟨h, by rw [if_neg (by omega), if_pos h]⟩)
    clear E3
    obtain ⟨c, HE3, hc⟩ := hcase
    rcases hc with ⟨hxy, rfl⟩ | ⟨hxy, rfl⟩ | ⟨⟨hxy, hxz⟩, h0, rfl⟩ | ⟨⟨hxy, hxz⟩, rfl, rfl⟩
    all_goals go_enter Try.func6, Try.ntmps6
    all_goals go_wp2_with (first
      | (go_at_call 21; refine (keepTwin _ xs w HA.out (by omega)).mono ?_; rintro e w4 ⟨v4, rfl, ho4, hb4⟩; have HO4 := hid ho4; have HB4 := hid hb4; have hz4 := hb4.size; clear ho4 hb4)
      | (at_builtin; refine wpList_app _ rfl _ _ 23 rfl .u8 w.heap.size 5 1 Try.underlying23 Try.infoU8 _ xs [x] rfl (HO4.out.below (by (repeat (first | exact Below.refl _ _ | exact below_drewN _ | refine Below.drew ?_ | refine Below.alloc ?_ (by simp) _ | refine Below.setCell ?_ (by simp) _ | refine below_drewN' ?_ _)))) _ rfl (one_sl (by first | simp | rfl)) (by unfold maxLen; first | omega | (simp; omega) | simp) (by first | omega | (simp; omega) | simp) (by first | omega | (simp; omega) | simp) ?_; intro v5 w5 ho5 hg5 hb5 hn5; have HO5 := hid ho5; have HB5 := hid (HB4.out.trans (Below.trans (by (repeat (first | exact Below.refl _ _ | exact below_drewN _ | refine Below.drew ?_ | refine Below.alloc ?_ (by first | omega | (simp; done) | (simp; omega)) _ | refine Below.setCell ?_ (by first | (simp; done) | (simp; omega)) _ | refine below_drewN' ?_ _))) hb5)); have hz5 := HB5.out.size; clear ho5 hg5 hn5 hb5)
      | (go_at_call 21; refine (keepTwin _ xs w5 (HA.out.below HB5.out) (by omega)).mono ?_; rintro e w6 ⟨v6, rfl, ho6, hb6⟩; have HO6 := hid ho6; have HC5 := hid (HO5.out.below hb6); have HB6 := hid (HB5.out.trans (hb6.mono hz5)); have HD6 := hid hb6; have hz6 := hb6.size; clear ho6 hb6)
      | (at_builtin; refine wpList_app _ rfl _ _ 23 rfl .u8 w5.heap.size 5 1 Try.underlying23 Try.infoU8 _ xs [y] rfl (HO6.out.below (by (repeat (first | exact Below.refl _ _ | exact below_drewN _ | refine Below.drew ?_ | refine Below.alloc ?_ (by simp) _ | refine Below.setCell ?_ (by simp) _ | refine below_drewN' ?_ _)))) _ rfl (one_sl (by first | simp | rfl)) (by unfold maxLen; first | omega | (simp; omega) | simp) (by first | omega | (simp; omega) | simp) (by first | omega | (simp; omega) | simp) ?_; intro v7 w7 ho7 hg7 hb7 hn7; have HO7 := hid ho7; have HD7 := hid (HD6.out.trans (Below.trans (by (repeat (first | exact Below.refl _ _ | exact below_drewN _ | refine Below.drew ?_ | refine Below.alloc ?_ (by first | omega | (simp; done) | (simp; omega)) _ | refine Below.setCell ?_ (by first | (simp; done) | (simp; omega)) _ | refine below_drewN' ?_ _))) hb7)); have hz7 := HD7.out.size; clear ho7 hg7 hn7 hb7; obtain ⟨a7, c7, hv7⟩ := HO7.out.sl.form; rw [show (xs ++ [y]).length = xs.length + 1 by simp] at hv7; subst hv7)
      | (at_builtin; refine wpList_app _ rfl _ _ 23 rfl .u8 w5.heap.size 5 1 Try.underlying23 Try.infoU8 _ (xs ++ [y]) ys rfl HO7.out _ rfl (HB.out.below (HB5.out.trans (HD7.out.mono hz5))) (by unfold maxLen; simp; omega) (by simp; omega) (by first | omega | (simp; omega) | simp) ?_; intro v8 w8 ho8 hg8 hb8 hn8; have HO8 := hid ho8.sl; have HD8 := hid (HD7.out.trans hb8); have hz8 := HD8.out.size; have HB8 := hid (HB5.out.trans (HD8.out.mono hz5)); have HC8 := hid (HO5.out.sl.below HD8.out); have HA8 := hid (HA.out.below HB8.out); clear ho8 hg8 hn8 hb8)
      | (go_at_call 15; refine (hC v5 v8 (xs ++ [x]) (xs ++ [y] ++ ys) (w8.drewN (n9 + n10)) HC8.out HO8.out UC.out UD.out).mono ?_; rw [HE3.out]; rintro e w11 ⟨rfl, n11, rfl⟩)
      | (go_at_call 15; refine (hC v5 (.slice a1 n1 c1) (xs ++ [x]) xs (w8.drewN n9) HC8.out HA8.out UC.out UA.out).mono ?_; rw [E2.out]; rintro e w10 ⟨rfl, n10, rfl⟩)
      | (go_at_call 15; refine (hC (.slice a1 n1 c1) v5 xs (xs ++ [x]) w8 HA8.out HC8.out UA.out UC.out).mono ?_; rw [E1.out]; rintro e w9 ⟨rfl, n9, rfl⟩)
      | (go_at_call 20; refine (lawWakes4 hC hO hS hP _).mono ?_; rintro e w12 ⟨rfl, hb12⟩; have HB12 := hid (Below.trans (show Below w.heap.size w _ from below_drewN' HB8.out (n9 + n10 + n11)) (hb12.mono HB8.out.size))))
    all_goals go_ret
    all_goals exact ⟨rfl, HB12.out⟩

theorem beginWalk (va : Value) (xs : List Int) (vb : Value) (ys : List Int) (x y : Int) (w : World) (ha : Sl .u8 w va xs) (hua : U8 xs) (hb : Sl .u8 w vb ys) (hub : U8 ys) (hx : 0 ≤ x ∧ x ≤ 255) (hy : 0 ≤ y ∧ y ≤ 255) :
    Calls Try.prog 6 #[va, vb, .int .u8 x, .int .u8 y] w fun e w' => e = .returned (.bool true) ∧ Below w.heap.size w w' :=
  walkBegin compareOk sortedOk sortOk placeOk va vb xs ys x y w ha hb hua hub hx hy

end Go.Proofs.Ytgdbjbkmkdkhhaa
