/- Several texts in one: LawDirect18, LawAccents18, Str19a, Cho20b, Str19b. -/
import Derived.Test.YtildhebaikeknaaGreatPk36
import Derived.Test.YtildhebaikeknaaGreatPk37
import Derived.Test.YtildhebaikeknaaGreatPk25
import Derived.Test.YtildhebaikeknaaGreatPk29
import Derived.Test.YtildhebaikeknaaGreatPk1
import Derived.Test.YtildhebaikeknaaGreatPk38
import Derived.Test.YtildhebaikeknaaGreatPk10
import Derived.Test.YtildhebaikeknaaGreatPk24
import Derived.Test.YtildhebaikeknaaGreatPk18
import Derived.Test.YtildhebaikeknaaGreatPk16
import Derived.Test.YtildhebaikeknaaGreatPk39
import Derived.Test.YtildhebaikeknaaGreatPk32
import Derived.Test.YtildhebaikeknaaGreatPk34
import Derived.Test.YtildhebaikeknaaGreatPk19
import Derived.Test.YtildhebaikeknaaGreatPk22
import Derived.Test.YtildhebaikeknaaGreatPk23
import Derived.Test.YtildhebaikeknaaGreatPk35
import Derived.Test.YtildhebaikeknaaGreatPk8
import Derived.Test.YtildhebaikeknaaGreatPk42
/-! LawDirect18 -/
namespace Go.Proofs.YtildhebaikeknaaGreat
open Go.RowKit

def codes103 (l : List Rg) : List Rg := l.filter fun r => r.f == 103
theorem codes103_len : (codes103 tabCodes).length ≤ 1000 ∧ 0 < (codes103 tabCodes).length ∧ tabCodes.length ≤ 1000 := by decide +kernel
theorem codes103_next {l : List Rg} {k : Nat} (h : k < l.length) : codes103 (l.take (k + 1)) = if (l.getD k noRg).f = 103 then codes103 (l.take k) ++ [l.getD k noRg] else codes103 (l.take k) := by
  have e : l.getD k noRg = l[k]'h := by rw [List.getD_eq_getElem?_getD, List.getElem?_eq_getElem h]; rfl
  rw [e, List.take_succ_eq_append_getElem h]
  unfold codes103
  rw [List.filter_append]
  by_cases hf : (l[k]'h).f = 103
  · rw [if_pos hf]; simp [hf]
  · rw [if_neg hf]; simp [hf]
theorem getD_mem18 {l : List Rg} {j : Nat} (h : j < l.length) : l.getD j noRg ∈ l := by
  rw [List.getD_eq_getElem?_getD, List.getElem?_eq_getElem h]
  exact List.getElem_mem h
theorem Sg.open18 {w : World} {v : Value} {l : List Rg} (h : Sg w v l) (h0 : 0 < l.length) : ∃ b o c, v = .slice (some ⟨b, o, none⟩) l.length c ∧ l.length ≤ c ∧ ∀ i, i < l.length → w.cell? ⟨b, o + i * 3, none⟩ = some (.int .i64 (l.getD i noRg).f) ∧ w.cell? ⟨b, o + i * 3 + 1, none⟩ = some (.int .i64 (l.getD i noRg).t) ∧ w.cell? ⟨b, o + i * 3 + 2, none⟩ = some (.int .i64 (l.getD i noRg).v) := by
  obtain ⟨a, c, rfl, h1, -, h⟩ := h
  rcases h with h | ⟨b, o, rfl, -, hc⟩
  · omega
  · exact ⟨b, o, c, rfl, h1, hc⟩
/-- a read's three results -/
def readV (xs : List Int) (at_ e : Int) : Fact := ⟨fun v w => ∃ x, v = .tuple #[x, .int .i64 at_, .int .i64 e] ∧ Sl .i64 w x xs, fun _ _ _ ⟨x, h1, h2⟩ hb => ⟨x, h1, h2.below hb⟩⟩

set_option profiler true
set_option profiler.threshold 500
end Go.Proofs.YtildhebaikeknaaGreat

/-! LawAccents18 -/
namespace Go.Proofs.YtildhebaikeknaaGreat
open Go.RowKit

theorem rep_snoc (n : Nat) (x : Int) : List.replicate (n + 1) x = List.replicate n x ++ [x] := List.replicate_succ'
theorem ixn18 (x m : Int) (h0 : 0 < m) (h1 : m ≤ 1000000) : ∃ K : Nat, wrap64 ((IntKind.u64.wrap x).tmod m) = (K : Int) ∧ (K : Int) < m := by
  obtain ⟨K, h2, h3, h4⟩ := ix_rem x m h0 (by omega)
  exact ⟨K.toNat, by rw [h2]; omega, by omega⟩
theorem accs_len : tabAccents.length = 13 := rfl
/-- numbers of the call's own stay while numbers of another kind are appended -/
theorem Own.leavesN {k k' : IntKind} {e e' base base' : Nat} {w w' : World} {v u : Value} {l xs : List Int} (h : Own k e base w v l) (ho : Own k' e' base' w u xs) (ht : e ≠ e') (hg : w.grownBy w' v.ownBlock) : Own k' e' base' w' u xs := by
  refine World.ownsRow.kept ho hg ?_
  rcases h.2 with ⟨rfl, hn⟩ | ⟨g, cap, cur, rfl, hb, hh, -⟩
  · cases hu : u.ownBlock with
    | none => exact .inl rfl
    | some c => exact .inr (by simp [Value.ownBlock])
  · cases hu : u.ownBlock with
    | none => exact .inl rfl
    | some c =>
      refine .inr fun e1 => ho.other (t := e) (cs := cur.toList) (B := g) (by unfold Box; rw [hh]) ht ?_
      rw [hu]
      exact e1.symm
def readO (base : Nat) (xs : List Int) (at_ e : Int) : Fact := ⟨fun v w => ∃ x, v = .tuple #[x, .int .i64 at_, .int .i64 e] ∧ Own .i64 3 base w x xs, fun _ _ _ ⟨x, h1, h2⟩ hb => ⟨x, h1, h2.below hb⟩⟩
def AccL (W : World) (N : Nat) (bv tv : Value) (wr : World) : Prop := ∃ (k : Nat) (ba ta : Option Addr) (bc tc : Nat), k ≤ N ∧ bv = .slice ba k bc ∧ tv = .slice ta k tc ∧ Own .u8 5 W.heap.size wr (.slice ba k bc) (List.replicate k 120) ∧ Own .i64 3 W.heap.size wr (.slice ta k tc) (List.replicate k 120) ∧ Below W.heap.size W wr
end Go.Proofs.YtildhebaikeknaaGreat

/-! Str19a -/
namespace Go.Proofs.YtildhebaikeknaaGreat
open Go.RowKit

def SPutOk : Prop := ∀ (k : Int) (v : Value) (s : List Int) (w : World), Sl .i64 w v s → s.all inI = true → s.length ≤ 100000 → Calls Tryz.prog 18 #[.int .i64 k, v] w fun e w' => ∃ x, e = .returned (.tuple #[x, .int .i64 (sput k s).2.1, .int .i64 (sput k s).2.2]) ∧ Sl .u8 w' x (sput k s).1 ∧ Below w.heap.size w w'
set_option maxHeartbeats 2000000 in
theorem strPut (HU : UPutOk) (HW : WPutOk) (HN : NPutOk) (HT : TPutOk) : SPutOk := by
  intro k v s w hs hi hl
  by_cases h12 : k = 12
  · subst h12
    have HSP := hid (show sput 12 s = res3 14 (putU s) from rfl)
    have HC := hid (HU v s w hs hi hl)
    clear hs hl hi
    go_enter Tryz.func18, Tryz.ntmps18
    go_wp2_with (go_at_call 31; refine HC.out.mono ?_; rintro e w2 ⟨v2, rfl, ho2, hb2⟩; have HO2 := hid ho2; have HB2 := hid hb2; clear ho2 hb2)
    go_ret3
    exact ⟨_, by rw [HSP.out]; rfl, by rw [HSP.out]; exact HO2.out, HB2.out⟩
  by_cases h20 : k = 20
  · subst h20
    have HSP := hid (show sput 20 s = res3 14 (put18 s) from rfl)
    have HC := hid (HT v s w hs hi hl)
    clear hs hl hi
    go_enter Tryz.func18, Tryz.ntmps18
    go_wp2_with (go_at_call 33; refine HC.out.mono ?_; rintro e w2 ⟨v2, rfl, ho2, hb2⟩; have HO2 := hid ho2; have HB2 := hid hb2; clear ho2 hb2)
    go_ret3
    exact ⟨_, by rw [HSP.out]; rfl, by rw [HSP.out]; exact HO2.out, HB2.out⟩
  by_cases h30 : k = 30
  · subst h30
    have HSP := hid (show sput 30 s = wput 2 s from rfl)
    have HC := hid (HW v s 2 w hs hi hl)
    clear hs hl hi
    go_enter Tryz.func18, Tryz.ntmps18
    go_wp2_with (go_at_call 34; refine HC.out.mono ?_; rintro e w2 ⟨v2, rfl, ho2, hb2⟩; have HO2 := hid ho2; have HB2 := hid hb2; clear ho2 hb2)
    go_ret3
    exact ⟨_, by rw [HSP.out]; rfl, by rw [HSP.out]; exact HO2.out.sl, HB2.out⟩
  by_cases h28 : k = 28
  · subst h28
    have HSP := hid (show sput 28 s = wput 4 s from rfl)
    have HC := hid (HW v s 4 w hs hi hl)
    clear hs hl hi
    go_enter Tryz.func18, Tryz.ntmps18
    go_wp2_with (go_at_call 34; refine HC.out.mono ?_; rintro e w2 ⟨v2, rfl, ho2, hb2⟩; have HO2 := hid ho2; have HB2 := hid hb2; clear ho2 hb2)
    go_ret3
    exact ⟨_, by rw [HSP.out]; rfl, by rw [HSP.out]; exact HO2.out.sl, HB2.out⟩
  by_cases h18 : k = 18
  · subst h18
    have HSP := hid (show sput 18 s = nput 18 s from rfl)
    have HC := hid (HN 18 v s w hs hi hl)
    clear hs hl hi
    go_enter Tryz.func18, Tryz.ntmps18
    go_wp2_with (go_at_call 32; refine HC.out.mono ?_; rintro e w2 ⟨v2, rfl, ho2, hb2⟩; have HO2 := hid ho2; have HB2 := hid hb2; clear ho2 hb2)
    go_ret3
    exact ⟨_, by rw [HSP.out]; rfl, by rw [HSP.out]; exact HO2.out.sl, HB2.out⟩
  by_cases h19 : k = 19
  · subst h19
    have HSP := hid (show sput 19 s = nput 19 s from rfl)
    have HC := hid (HN 19 v s w hs hi hl)
    clear hs hl hi
    go_enter Tryz.func18, Tryz.ntmps18
    go_wp2_with (go_at_call 32; refine HC.out.mono ?_; rintro e w2 ⟨v2, rfl, ho2, hb2⟩; have HO2 := hid ho2; have HB2 := hid hb2; clear ho2 hb2)
    go_ret3
    exact ⟨_, by rw [HSP.out]; rfl, by rw [HSP.out]; exact HO2.out.sl, HB2.out⟩
  by_cases h22 : k = 22
  · subst h22
    have HSP := hid (show sput 22 s = nput 22 s from rfl)
    have HC := hid (HN 22 v s w hs hi hl)
    clear hs hl hi
    go_enter Tryz.func18, Tryz.ntmps18
    go_wp2_with (go_at_call 32; refine HC.out.mono ?_; rintro e w2 ⟨v2, rfl, ho2, hb2⟩; have HO2 := hid ho2; have HB2 := hid hb2; clear ho2 hb2)
    go_ret3
    exact ⟨_, by rw [HSP.out]; rfl, by rw [HSP.out]; exact HO2.out.sl, HB2.out⟩
  by_cases h26 : k = 26
  · subst h26
    have HSP := hid (show sput 26 s = nput 26 s from rfl)
    have HC := hid (HN 26 v s w hs hi hl)
    clear hs hl hi
    go_enter Tryz.func18, Tryz.ntmps18
    go_wp2_with (go_at_call 32; refine HC.out.mono ?_; rintro e w2 ⟨v2, rfl, ho2, hb2⟩; have HO2 := hid ho2; have HB2 := hid hb2; clear ho2 hb2)
    go_ret3
    exact ⟨_, by rw [HSP.out]; rfl, by rw [HSP.out]; exact HO2.out.sl, HB2.out⟩
  have HSP := hid (show sput k s = ([], 0, 18) from by unfold sput; rw [if_neg h12, if_neg h20, if_neg h30, if_neg h28]; unfold nput; rw [if_neg (by unfold narK; simp; omega)])
  have e12 : (k == 12) = false := by simpa using h12
  have e20 : (k == 20) = false := by simpa using h20
  have e30 : (k == 30) = false := by simpa using h30
  have e28 : (k == 28) = false := by simpa using h28
  have e18 : (k == 18) = false := by simpa using h18
  have e19 : (k == 19) = false := by simpa using h19
  have e22 : (k == 22) = false := by simpa using h22
  have e26 : (k == 26) = false := by simpa using h26
  clear hs hl hi h12 h20 h30 h28 h18 h19 h22 h26
  go_enter Tryz.func18, Tryz.ntmps18
  go_wp2
  go_ret3
  exact ⟨_, by rw [HSP.out]; rfl, by rw [HSP.out]; exact (Own.nil .u8 5 w.heap.size _).sl, Below.refl _ _⟩

theorem tel3_L (r : List Int ⊕ (Nat × Int)) : (tel3 r).1 = r3L r := by cases r <;> rfl
theorem tel3_at (r : List Int ⊕ (Nat × Int)) : (tel3 r).2.1 = (r3At r : Int) := by cases r <;> rfl
theorem tel3_E (r : List Int ⊕ (Nat × Int)) : (tel3 r).2.2 = r3E r := by cases r <;> rfl
end Go.Proofs.YtildhebaikeknaaGreat

/-! Cho20b -/
namespace Go.Proofs.YtildhebaikeknaaGreat
open Go.RowKit

set_option maxHeartbeats 4000000 in
theorem choDistinct (v : Value) (s : List Int) (w : World) (hs : Sl .i64 w v s) (hl : s.length ≤ 1000) : Calls Tryz.prog 16 #[v] w fun e w' =>
    ∃ x, e = .returned x ∧ Own .i64 3 w.heap.size w' x (distF [] s) ∧ Below w.heap.size w w' := by
  obtain ⟨a1, cap1, rfl, q1, -, h1⟩ := hs
  obtain ⟨n, hn⟩ : ∃ n, n = s.length := ⟨_, rfl⟩
  obtain ⟨R, hR⟩ : ∃ R, R = distF [] s := ⟨_, rfl⟩
  have HN := hid hn
  have H1 := hid h1
  have HR := hid hR
  rw [← hR]
  rw [← hn] at q1 hl ⊢
  clear h1 hn hR
  go_enter Tryz.func16, Tryz.ntmps16
  go_wp2_with (fail)
  go_loopw [3, 5, 8] (fun bv _ iv wr => ∃ (j : Nat) (x : List Int), j ≤ n ∧ iv = .int .i64 j ∧ Hid (Own .i64 3 w.heap.size wr bv x) ∧ Hid (Below w.heap.size w wr) ∧ Hid (R = distF x (s.drop j)) ∧ x.length ≤ j) (fun _ _ iv _ => n - (intOf iv).toNat)
  case atStart => exact ⟨0, [], by omega, rfl, Own.nil _ _ _ _, Below.refl _ _, HR.out, by simp⟩
  case round =>
    obtain ⟨j, x, hj, rfl, hown, hbel, hput, hxl⟩ := hrel
    by_cases hlt : j < n
    · rcases H1.out with hcc | ⟨b1, o1, rfl, hb1, hc⟩
      · omega
      have hb1' := hb1 (by have := HN.out; omega)
      have d1 := (hbel.out.cell (p := ⟨b1, o1 + j, none⟩) hb1').trans (hc j (by have := HN.out; omega))
      have hdr : s.drop j = s.getD j 0 :: s.drop (j + 1) := drop_getD rfl (by have := HN.out; omega)
      rw [hdr, distF] at hput
      clear hc hb1 hb1' hdr
      generalize s.getD j 0 = c at d1 hput
      have HI := hid (strIs c wr)
      have HC := hid (fun u h => slicesContains u x c wr h)
      generalize isK c = b at hput HI
      generalize inL c x = d at hput HC
      obtain ⟨a7, c7, rfl⟩ := hown.out.sl.form
      have HS := hid hown.out.sl
      cases b with
      | false =>
        have HK := hid (hput.out.trans (if_neg (by simp)))
        clear hput
        go_wp2_with (go_at_call 28; refine HI.out.mono ?_; rintro e w1 ⟨rfl, rfl⟩)
        go_roundw
        case rel => exact ⟨j + 1, x, by omega, by go_num, hown, hbel, HK.out, by omega⟩
        case measure => simp [intOf]; omega
      | true =>
        cases d with
        | true =>
          have HK := hid (hput.out.trans (if_neg (by simp)))
          clear hput
          go_wp2_with (first
            | (go_at_call 28; refine HI.out.mono ?_; rintro e w1 ⟨rfl, rfl⟩)
            | (go_at_call 29; refine (HC.out _ HS.out).mono ?_; rintro e w1 ⟨rfl, rfl⟩))
          go_roundw
          case rel => exact ⟨j + 1, x, by omega, by go_num, hown, hbel, HK.out, by omega⟩
          case measure => simp [intOf]; omega
        | false =>
          have HK := hid (hput.out.trans (if_pos rfl))
          have HX := hid (show (x ++ [c]).length = x.length + 1 by simp)
          clear hput
          go_wp2_with (first
            | (go_at_call 28; refine HI.out.mono ?_; rintro e w1 ⟨rfl, rfl⟩)
            | (go_at_call 29; refine (HC.out _ HS.out).mono ?_; rintro e w1 ⟨rfl, rfl⟩)
            | (at_builtin; go_loud (refine wpList_app _ rfl _ _ 22 rfl .i64 w.heap.size 3 8 Tryz.underlying22 Tryz.infoI64 _ x [c] rfl (hown.out.alloc _) _ rfl (one_sl (by first | simp | rfl)) (by unfold maxLen; simp; omega) (by simp; omega) (by have := hbel.out.size; simp; omega) ?_); intro v5 w5 ho5 hg5 hb5 hn5; have HO5 := hid ho5; have HB5 := hid ((hbel.out.alloc hbel.out.size _).trans hb5); clear ho5 hg5 hb5 hn5))
          go_roundw
          case rel => exact ⟨j + 1, x ++ [c], by omega, by go_num, HO5.out, HB5.out, HK.out, by rw [HX.out]; omega⟩
          case measure => simp [intOf]; omega
    · obtain rfl : j = n := by omega
      have HP := hid (show R = x by rw [hput.out, HN.out, List.drop_length]; rfl)
      go_wp2
      go_ret
      exact ⟨_, rfl, by rw [HP.out]; exact hown.out, hbel.out⟩

set_option maxHeartbeats 2000000 in
theorem choFits (HP : SPutOk) : CFitsOk := by
  intro k v s w hk hs hi hl
  have HC := hid (HP k v s w hs hi hl)
  obtain ⟨a1, c1, rfl⟩ := hs.form
  obtain ⟨n, hn⟩ : ∃ n, n = s.length := ⟨_, rfl⟩
  have hf : fitB k s = (decide ((sput k s).2.2 = 0) && decide (0 < n)) := by
    unfold fitB
    congr 1
    rw [hn]
    cases s <;> simp
  rw [hf]
  rw [← hn] at HC ⊢
  generalize sput k s = R at HC ⊢
  obtain ⟨b, at_, e⟩ := R
  dsimp only at HC ⊢
  clear hs hi hl HP hf hn
  by_cases h0 : n = 0
  · subst h0
    go_enter Tryz.func7, Tryz.ntmps7
    go_wp2
    go_ret
    exact ⟨by simp, Below.refl _ _⟩
  · have e0 : ((n : Int) == 0) = false := by simp; omega
    have HZ := hid (show decide (0 < n) = true from decide_eq_true (by omega))
    obtain ⟨q, hq⟩ : ∃ q, q = decide (e = 0) := ⟨_, rfl⟩
    have HQ := hid hq
    have eq0 : (e == 0) = q := by rw [hq]; rfl
    clear h0 hq
    go_enter Tryz.func7, Tryz.ntmps7
    go_wp2_with (go_at_call 18; refine HC.out.mono ?_; rintro e w2 ⟨v2, rfl, -, hb2⟩; have HB2 := hid hb2; clear hb2)
    go_ret
    exact ⟨by rw [← HQ.out, HZ.out, Bool.and_true]; rfl, HB2.out⟩

theorem cho_mem {l : List Int} {j : Nat} (h : j < l.length) : l.getD j 0 ∈ l := by
  rw [List.getD_eq_getElem?_getD, List.getElem?_eq_getElem h]
  exact List.getElem_mem h
set_option maxHeartbeats 4000000 in
theorem choFirst (HF : CFitsOk) : CFirstOk := by
  intro u v l s w hu hs hil his hll hls
  have HD := hid (fun w hu => choDistinct u l w hu hll)
  have hkin : ∀ k, k ∈ distF [] l → inI k = true := fun k hk => by
    have h1 := dist_in l [] (fun _ h => by cases h) k hk
    unfold isK narK at h1
    rw [Bool.or_eq_true, decide_eq_true_iff, decide_eq_true_iff] at h1
    unfold inI
    rw [decide_eq_true_iff]
    omega
  have hfe : firstS s l = firstS s (distF [] l) := (dist_first s l []).symm
  have hdl := dist_len l []
  simp only [List.length_nil, Nat.zero_add] at hdl
  have HS := hid hs
  have HU := hid hu
  have HFF := hid (fun k w hk h => HF k v s w hk h his hls)
  obtain ⟨a2, c2, rfl⟩ := hs.form
  obtain ⟨a1, c1, rfl⟩ := hu.form
  obtain ⟨m, hm⟩ : ∃ m, m = s.length := ⟨_, rfl⟩
  rw [← hm] at HS HFF ⊢
  by_cases h0 : m = 0
  · have hs0 : s = [] := List.eq_nil_of_length_eq_zero (by omega)
    unfold firstR
    rw [if_pos hs0]
    subst h0
    clear hs hm his hls HFF hs0 hu hil hll hkin hfe hdl HS HU HD
    go_enter Tryz.func5, Tryz.ntmps5
    go_wp2
    go_ret2
    exact ⟨rfl, Below.refl _ _⟩
  have hs0 : ¬ s = [] := fun e => h0 (by rw [hm, e]; rfl)
  have em : ((m : Int) == 0) = false := by simp; omega
  unfold firstR
  rw [if_neg hs0, hfe]
  generalize distF [] l = d at HD hkin hfe hdl ⊢
  obtain ⟨n, hn⟩ : ∃ n, n = d.length := ⟨_, rfl⟩
  have hn1 : n ≤ 1000 := by omega
  have HN := hid hn
  have HK := hid hkin
  obtain ⟨r, hr⟩ : ∃ r, r = firstS s d := ⟨_, rfl⟩
  have HR := hid hr
  have hz := fun (k : Int) (h : fitB k s = true) => (show k ≠ 0 from fun e => by rw [e, fit_zero] at h; cases h)
  have HZ := hid hz
  rw [← hr]
  obtain ⟨Q, hQ⟩ : ∃ Q : Int × Int, Q = if r = 0 then (0, 14) else (r, 0) := ⟨_, rfl⟩
  have HQ := hid hQ
  rw [← hQ]
  clear hs hm his hls hs0 hu hil hll hkin hfe hdl hn hr h0 hz hQ
  go_enter Tryz.func5, Tryz.ntmps5
  go_wp2_with (go_at_call 16; refine (HD.out _ HU.out).mono ?_; rintro e w2 ⟨v2, rfl, ho2, hb2⟩; have HB2 := hid hb2; obtain ⟨a5, c5, hv5, q5, -, h5⟩ := ho2.sl; rw [← HN.out] at hv5 q5; subst hv5; have H5 := hid h5; clear ho2 hb2 h5)
  go_loopw [4, 5, 7, 14] (fun x1 x2 _ iv wr => ∃ (j : Nat), j ≤ n ∧ x1 = .int .i64 0 ∧ x2 = .int .i64 0 ∧ iv = .int .i64 j ∧ Hid (Below w2.heap.size w2 wr) ∧ Hid (r = firstS s (d.drop j))) (fun _ _ _ iv _ => n - (intOf iv).toNat)
  case atStart => exact ⟨0, by omega, rfl, rfl, rfl, Below.refl _ _, HR.out⟩
  case round =>
    obtain ⟨j, hj, rfl, rfl, rfl, hbel, hrest⟩ := hrel
    by_cases hlt : j < n
    · rcases H5.out with hcc | ⟨b1, o1, rfl, hb1, hc⟩
      · have := HN.out; omega
      have hb1' := hb1 (by have := HN.out; omega)
      have d1 := (hbel.out.cell (p := ⟨b1, o1 + j, none⟩) hb1').trans (hc j (by have := HN.out; omega))
      have hdr : d.drop j = d.getD j 0 :: d.drop (j + 1) := drop_getD rfl (by have := HN.out; omega)
      rw [hdr, firstS] at hrest
      have hki := HK.out (d.getD j 0) (cho_mem (by have := HN.out; omega))
      clear hc hb1 hb1' hdr
      generalize d.getD j 0 = k at d1 hrest hki
      have HSr := hid ((HS.out.below HB2.out).below hbel.out)
      have HFK := hid (HFF.out k wr hki HSr.out)
      have hz := HZ.out k
      generalize fitB k s = f at HFK hrest hz
      cases f with
      | true =>
        have HK2 := hid (hrest.out.trans (if_pos rfl))
        have HK0 := hid (hz rfl)
        clear hrest hz
        go_wp2_with (go_at_call 7; refine HFK.out.mono ?_; rintro e w3 ⟨rfl, hb3⟩; have HB3 := hid (HB2.out.trans ((hbel.out.trans (hb3.mono hbel.out.size)).mono HB2.out.size)); clear hb3)
        go_ret2
        exact ⟨by rw [HQ.out, HK2.out, if_neg HK0.out]; rfl, HB3.out⟩
      | false =>
        have HK2 := hid (hrest.out.trans (if_neg (by simp)))
        clear hrest hz
        go_wp2_with (go_at_call 7; refine HFK.out.mono ?_; rintro e w3 ⟨rfl, hb3⟩; have HB3 := hid (hbel.out.trans (hb3.mono hbel.out.size)); clear hb3)
        go_roundw
        case rel => exact ⟨j + 1, by omega, rfl, rfl, by go_num, HB3.out, HK2.out⟩
        case measure => simp [intOf]; omega
    · obtain rfl : j = n := by omega
      have HP := hid (show r = 0 by rw [hrest.out, HN.out, List.drop_length]; rfl)
      go_wp2
      go_ret2
      exact ⟨by rw [HQ.out, HP.out]; rfl, HB2.out.trans (hbel.out.mono HB2.out.size)⟩

theorem fit_encC (k : Int) (s : List Int) : fitB k s = (decide ((encS k s).2.2 = 0) && decide (0 < s.length)) := by
  have h : (encS k s).2.2 = (sput k s).2.2 := by
    unfold encS
    split
    · rename_i h; exact h.symm
    · rfl
  unfold fitB
  rw [h]
  congr 1
  cases s <;> simp
set_option maxHeartbeats 4000000 in
theorem choLeast (HE : SEncOk) : CLeastOk := by
  intro u v l s w hu hs hil his hll hls
  have HD := hid (fun w hu => choDistinct u l w hu hll)
  have hkin : ∀ k, k ∈ distF [] l → inI k = true ∧ k ≠ 0 := fun k hk => by
    have h1 := dist_in l [] (fun _ h => by cases h) k hk
    unfold isK narK at h1
    rw [Bool.or_eq_true, decide_eq_true_iff, decide_eq_true_iff] at h1
    refine ⟨?_, by omega⟩
    unfold inI
    rw [decide_eq_true_iff]
    omega
  have hfe : leastF s 0 0 l = leastF s 0 0 (distF [] l) := (dist_least s l []).symm
  have hdl := dist_len l []
  simp only [List.length_nil, Nat.zero_add] at hdl
  have HS := hid hs
  have HU := hid hu
  have HFF := hid (fun k w hk h => HE k v s w hk h his hls)
  obtain ⟨a2, c2, rfl⟩ := hs.form
  obtain ⟨a1, c1, rfl⟩ := hu.form
  obtain ⟨m, hm⟩ : ∃ m, m = s.length := ⟨_, rfl⟩
  have HM := hid hm
  rw [← hm] at HS HFF ⊢
  by_cases h0 : m = 0
  · have hs0 : s = [] := List.eq_nil_of_length_eq_zero (by omega)
    unfold leastR
    rw [if_pos hs0]
    subst h0
    clear hs hm his hls HFF hs0 hu hil hll hkin hfe hdl HS HU HD
    go_enter Tryz.func6, Tryz.ntmps6
    go_wp2
    go_ret2
    exact ⟨rfl, Below.refl _ _⟩
  have hs0 : ¬ s = [] := fun e => h0 (by rw [hm, e]; rfl)
  have em : ((m : Int) == 0) = false := by simp; omega
  unfold leastR leastS
  rw [if_neg hs0, hfe]
  generalize distF [] l = d at HD hkin hfe hdl ⊢
  obtain ⟨n, hn⟩ : ∃ n, n = d.length := ⟨_, rfl⟩
  have hn1 : n ≤ 1000 := by omega
  have HN := hid hn
  have HK := hid hkin
  obtain ⟨r, hr⟩ : ∃ r, r = (leastF s 0 0 d).1 := ⟨_, rfl⟩
  have HR := hid hr
  have HM0 := hid (show decide (0 < m) = true from decide_eq_true (by omega))
  rw [← hr]
  obtain ⟨Q, hQ⟩ : ∃ Q : Int × Int, Q = if r = 0 then (0, 14) else (r, 0) := ⟨_, rfl⟩
  have HQ := hid hQ
  rw [← hQ]
  clear hs hm his hls hs0 hu hil hll hkin hfe hdl hn hr h0 hQ
  go_enter Tryz.func6, Tryz.ntmps6
  go_wp2_with (go_at_call 16; refine (HD.out _ HU.out).mono ?_; rintro e w2 ⟨v2, rfl, ho2, hb2⟩; have HB2 := hid hb2; obtain ⟨a5, c5, hv5, q5, -, h5⟩ := ho2.sl; rw [← HN.out] at hv5 q5; subst hv5; have H5 := hid h5; clear ho2 hb2 h5)
  go_loopw [6, 7, 9, 10, 11, 12, 19] (fun bv nv _ _ _ _ iv wr => ∃ (j : Nat) (b nb : Int), j ≤ n ∧ bv = .int .i64 b ∧ nv = .int .i64 nb ∧ iv = .int .i64 j ∧ Hid (Below w2.heap.size w2 wr) ∧ Hid (r = (leastF s b nb (d.drop j)).1)) (fun _ _ _ _ _ _ iv _ => n - (intOf iv).toNat)
  case atStart => exact ⟨0, 0, 0, by omega, rfl, rfl, rfl, Below.refl _ _, HR.out⟩
  case round =>
    obtain ⟨j, b, nb, hj, rfl, rfl, rfl, hbel, hrest⟩ := hrel
    by_cases hlt : j < n
    · rcases H5.out with hcc | ⟨b1, o1, rfl, hb1, hc⟩
      · have := HN.out; omega
      have hb1' := hb1 (by have := HN.out; omega)
      have d1 := (hbel.out.cell (p := ⟨b1, o1 + j, none⟩) hb1').trans (hc j (by have := HN.out; omega))
      have hdr : d.drop j = d.getD j 0 :: d.drop (j + 1) := drop_getD rfl (by have := HN.out; omega)
      rw [hdr, leastF] at hrest
      have hki := HK.out (d.getD j 0) (cho_mem (by have := HN.out; omega))
      clear hc hb1 hb1' hdr
      generalize d.getD j 0 = k at d1 hrest hki
      have HSr := hid ((HS.out.below HB2.out).below hbel.out)
      have HFK := hid (HFF.out k wr hki.1 HSr.out)
      have hfe := fit_encC k s
      rw [← HM.out, HM0.out, Bool.and_true] at hfe
      rw [hfe] at hrest
      clear hfe
      generalize (encS k s).1 = eb at HFK hrest
      generalize (encS k s).2.1 = ea at HFK
      generalize (encS k s).2.2 = ee at HFK hrest
      obtain ⟨mm, hmm⟩ : ∃ mm, mm = eb.length := ⟨_, rfl⟩
      have HML := hid hmm
      rw [← hmm] at hrest
      clear hmm
      by_cases he : ee = 0
      · subst he
        by_cases hb0 : b = 0
        · have HK2 := hid (hrest.out.trans (congrArg Prod.fst (if_pos ⟨by simp, .inl hb0⟩)))
          subst hb0
          clear hrest
          go_wp2_with (go_at_call 17; refine HFK.out.mono ?_; rintro e w3 ⟨v3, rfl, ho3, hb3⟩; obtain ⟨a6, c6, hv6⟩ := ho3.sl.form; rw [← HML.out] at hv6; subst hv6; have HB3 := hid (hbel.out.trans (hb3.mono hbel.out.size)); clear hb3 ho3)
          go_roundw
          case rel => exact ⟨j + 1, k, (mm : Int), by omega, rfl, rfl, by go_num, HB3.out, HK2.out⟩
          case measure => simp [intOf]; omega
        · have eb0 : (b == 0) = false := by simpa using hb0
          by_cases hlt2 : (mm : Int) < nb
          · have HK2 := hid (hrest.out.trans (congrArg Prod.fst (if_pos ⟨by simp, .inr hlt2⟩)))
            have el2 : decide ((mm : Int) < nb) = true := decide_eq_true hlt2
            clear hrest hb0 hlt2
            go_wp2_with (go_at_call 17; refine HFK.out.mono ?_; rintro e w3 ⟨v3, rfl, ho3, hb3⟩; obtain ⟨a6, c6, hv6⟩ := ho3.sl.form; rw [← HML.out] at hv6; subst hv6; have HB3 := hid (hbel.out.trans (hb3.mono hbel.out.size)); clear hb3 ho3)
            go_roundw
            case rel => exact ⟨j + 1, k, (mm : Int), by omega, rfl, rfl, by go_num, HB3.out, HK2.out⟩
            case measure => simp [intOf]; omega
          · have HK2 := hid (hrest.out.trans (congrArg Prod.fst (if_neg (fun h => h.2.elim hb0 hlt2))))
            have el2 : decide ((mm : Int) < nb) = false := decide_eq_false hlt2
            clear hrest hb0 hlt2
            go_wp2_with (go_at_call 17; refine HFK.out.mono ?_; rintro e w3 ⟨v3, rfl, ho3, hb3⟩; obtain ⟨a6, c6, hv6⟩ := ho3.sl.form; rw [← HML.out] at hv6; subst hv6; have HB3 := hid (hbel.out.trans (hb3.mono hbel.out.size)); clear hb3 ho3)
            go_roundw
            case rel => exact ⟨j + 1, b, nb, by omega, rfl, rfl, by go_num, HB3.out, HK2.out⟩
            case measure => simp [intOf]; omega
      · have e1 : (ee == 0) = false := by simpa using he
        have e2 : (ee != 0) = true := by simpa using he
        have HK2 := hid (hrest.out.trans (congrArg Prod.fst (if_neg (fun h => by have := h.1; simp at this; exact he this))))
        clear hrest he
        go_wp2_with (go_at_call 17; refine HFK.out.mono ?_; rintro e w3 ⟨v3, rfl, ho3, hb3⟩; obtain ⟨a6, c6, hv6⟩ := ho3.sl.form; rw [← HML.out] at hv6; subst hv6; have HB3 := hid (hbel.out.trans (hb3.mono hbel.out.size)); clear hb3 ho3)
        go_roundw
        case rel => exact ⟨j + 1, b, nb, by omega, rfl, rfl, by go_num, HB3.out, HK2.out⟩
        case measure => simp [intOf]; omega
    · obtain rfl : j = n := by omega
      have hP : r = b := by rw [hrest.out, HN.out, List.drop_length]; rfl
      have HP := hid hP
      clear hP
      by_cases hb0 : b = 0
      · subst hb0
        go_wp2
        go_ret2
        exact ⟨by rw [HQ.out, HP.out]; rfl, HB2.out.trans (hbel.out.mono HB2.out.size)⟩
      · have eb0 : (b == 0) = false := by simpa using hb0
        have HB0 := hid hb0
        clear hb0
        go_wp2
        go_ret2
        exact ⟨by rw [HQ.out, HP.out, if_neg HB0.out]; rfl, HB2.out.trans (hbel.out.mono HB2.out.size)⟩
end Go.Proofs.YtildhebaikeknaaGreat

/-! Str19b -/
namespace Go.Proofs.YtildhebaikeknaaGreat
open Go.RowKit

set_option maxHeartbeats 2000000 in
theorem strEncode (HP : SPutOk) (k : Int) (v : Value) (s : List Int) (w : World) (hs : Sl .i64 w v s) (hi : s.all inI = true) (hl : s.length ≤ 100000) : Calls Tryz.prog 17 #[.int .i64 k, v] w fun e w' =>
    ∃ x, e = .returned (.tuple #[x, .int .i64 (encS k s).2.1, .int .i64 (encS k s).2.2]) ∧ Own .u8 5 w.heap.size w' x (encS k s).1 ∧ Below w.heap.size w w' := by
  have HC := hid (HP k v s w hs hi hl)
  have hlen := sput_len (k := k) hl
  have hk := fun h => isK_of (k := k) (s := s) h
  obtain ⟨E, hE⟩ : ∃ E, E = encS k s := ⟨_, rfl⟩
  rw [← hE]
  have HE := hid hE
  unfold encS at HE
  generalize sput k s = R at HC hlen hk HE
  obtain ⟨b, at_, e⟩ := R
  dsimp only at HC hlen hk HE
  obtain ⟨a1, c1, rfl⟩ := hs.form
  clear hE hs hi hl HP
  by_cases he : e = 0
  · subst he
    obtain ⟨k0, k1⟩ := hk rfl
    have HW := hid (fun v w h => wrapOk ⟨0, k, false, 0, 0⟩ v b w h ⟨⟨Int.le_refl 0, (by decide : (0 : Int) ≤ 3)⟩, ⟨k0, (by omega : k ≤ 268435455)⟩, ⟨(by omega : (0 : Int) ≤ (b.length : Int)), (by omega : (b.length : Int) ≤ 2147483647)⟩⟩ (by omega))
    have HEE := hid (HE.out.trans (if_pos rfl))
    clear HE hk hlen
    go_enter Tryz.func17, Tryz.ntmps17
    go_wp2_with (first
      | (go_at_call 18; refine HC.out.mono ?_; rintro e w2 ⟨v2, rfl, ho2, hb2⟩; have HO2 := hid ho2; have HB2 := hid hb2; clear ho2 hb2)
      | (go_at_call 30; refine (HW.out _ _ HO2.out).mono ?_; rintro e w3 ⟨v3, rfl, ho3, hb3⟩; have HO3 := hid (ho3.mono HB2.out.size); have HB3 := hid (HB2.out.trans (hb3.mono HB2.out.size)); clear ho3 hb3))
    go_ret3
    exact ⟨_, by rw [HEE.out]; rfl, by rw [HEE.out]; exact HO3.out, HB3.out⟩
  · have e1 : (e == 0) = false := by simpa using he
    have e2 : (e != 0) = true := by simpa using he
    have HEE := hid (HE.out.trans (if_neg he))
    clear HE hk hlen he
    go_enter Tryz.func17, Tryz.ntmps17
    go_wp2_with (go_at_call 18; refine HC.out.mono ?_; rintro e w2 ⟨v2, rfl, ho2, hb2⟩; have HB2 := hid hb2; clear ho2 hb2)
    go_ret3
    exact ⟨_, by rw [HEE.out]; rfl, by rw [HEE.out]; exact Own.nil .u8 5 _ _, HB2.out⟩
theorem strEncodeOk (HP : SPutOk) : SEncOk := fun k v s w _ hs hi hl => strEncode HP k v s w hs hi hl

theorem sput_has (k c : Int) : decide ((sput k [c]).2.2 = 0) = (isK k && hasK k c) := by
  cases h : isK k with
  | false => rw [sput_not [c] h]; rfl
  | true =>
    rw [Bool.true_and, Bool.eq_iff_iff, decide_eq_true_iff, sput_iff [c] h]
    simp
end Go.Proofs.YtildhebaikeknaaGreat
