/- Contract of package well's value: what it answers of the value that begins at a place, within an enclosing one, at a depth. By induction on the levels that are left. -/
import Derived.Test.YtgjjncoelbhpeaaWell2
import Derived.Test.YtgjjncoelbhpeaaWellMath
namespace Go.Proofs.Ytgjjncoelbhpeaa
open Go.RowKit

theorem Below.grow {w w' : World} (h : Below w.heap.size w w') (row : Option Nat) : w.grownBy w' row := ⟨h.os, h.tape, h.output, h.size, fun i hi _ => h.block i hi⟩
theorem grow_then {a b c : World} {row : Option Nat} (h : a.grownBy b row) (k : b.grownBy c row) : a.grownBy c row :=
  ⟨k.os.trans h.os, k.tape.trans h.tape, k.output.trans h.output, Nat.le_trans h.size k.size, fun i hi hn => (k.block i (Nat.lt_of_lt_of_le hi h.size) hn).trans (h.block i hi hn)⟩
theorem grow_alloc {a w : World} {row : Option Nat} (h : a.grownBy w row) (o : Obj) : a.grownBy (w.alloc o) row :=
  grow_then h (Below.grow ((Below.refl _ _).alloc (Nat.le_refl _) o) row)
theorem grow_set {a w : World} {B : Nat} (h : a.grownBy w (some B)) (j : Nat) (v : Value) : a.grownBy (w.setCell ⟨B, j, none⟩ v) (some B) :=
  grow_then h ⟨rfl, rfl, rfl, by simp [World.setCell], fun i _ hn => Below.heap_setCell _ _ _ _ (fun e => hn (by rw [e]))⟩
theorem Box.grow {t : TypeId} {cs : List Value} {B H : Nat} {w w' : World} (h : Box t cs H w) (hg : w.grownBy w' (some B)) (hne : H ≠ B) : Box t cs H w' :=
  (hg.block H h.lt (fun e => hne (Option.some.inj e))).trans h
theorem below_grow {base B : Nat} {a w w' : World} (h : Below base a w) (hg : w.grownBy w' (some B)) (hb : base ≤ w.heap.size) (hB : base ≤ B) : Below base a w' :=
  h.grown hg hb (fun k hk => by injection hk with hk; omega)
theorem Box.two {t : TypeId} {a b : Value} {B : Nat} {w : World} (h : Box t [a, b] B w) :
    w.cell? ⟨B, 0, none⟩ = some a ∧ w.cell? ⟨B, 1, none⟩ = some b ∧ w.frozen? ⟨B, 0, none⟩ = false ∧ w.frozen? ⟨B, 1, none⟩ = false := ⟨h.cell 0, h.cell 1, h.ice 0, h.ice 1⟩

theorem span_body {xs : List Int} {fr lim s l j : Nat} (h : fr ≤ lim) (hs : s + l ≤ lim - fr) (hj : j ≤ l) :
    (xs.drop (fr + s + j)).take (fr + s + l - (fr + s + j)) = ((((xs.drop fr).take (lim - fr)).drop s).take l).drop j := by
  rw [List.drop_take, List.drop_drop, List.drop_take, List.take_take, List.drop_drop]
  congr 1
  · omega
  · congr 1; omega

theorem ret_two {k k' : IntKind} {a b c d : Int} (h : a = c) (h' : b = d) : Ending.returned (.tuple #[.int k a, .int k' b]) = .returned (.tuple #[.int k c, .int k' d]) := by rw [h, h']

set_option maxRecDepth 20000 in
set_option maxHeartbeats 2000000 in
theorem wellVal (W0 : World) (vb : Value) (xs : List Int) (hs0 : Sl .u8 W0 vb xs) (hu : U8 xs) : ∀ (k fr lim : Nat) (D : Int) (B : Nat) (w : World),
    k ≤ 32 → fr ≤ lim → lim ≤ xs.length → Below W0.heap.size W0 w → W0.heap.size ≤ B → Box 58 [vb, .int .i64 D] B w →
    Calls Try.prog 31 #[.pointer (some ⟨B, 0, none⟩), .int .i64 fr, .int .i64 lim, .int .i64 (33 - (k : Int))] w fun e w' =>
      e = .returned (.tuple #[.int .i64 ((fr : Int) + ((valW k ((xs.drop fr).take (lim - fr))).pos : Int)), .int .i64 (valW k ((xs.drop fr).take (lim - fr))).e]) ∧ w.grownBy w' (some B) ∧
      ∃ D', Box 58 [vb, .int .i64 D'] B w' ∧ ((valW k ((xs.drop fr).take (lim - fr))).e = 0 → D' = max D (32 - (k : Int) + ((valW k ((xs.drop fr).take (lim - fr))).deep : Int)))
  | 0, fr, lim, D, B, w, hk, hfl, hlx, hb0, hB, hbox => by
    have hmx := hs0.len
    have hE : headErr 33 ((xs.drop fr).take (lim - fr)) = 6 := by unfold headErr; rw [if_pos (by decide)]
    have hH : headHd 33 ((xs.drop fr).take (lim - fr)) = Hd.zero := by unfold headHd; rw [hE]; rfl
    obtain ⟨ys, hys⟩ : ∃ ys, ys = (xs.drop fr).take (lim - fr) := ⟨_, rfl⟩
    rw [← hys] at hE hH ⊢
    have HY := hid hys
    clear hys
    have HS := hid (hs0.below hb0)
    have HBX := hid hbox
    obtain ⟨b0, b1, c0, c1⟩ := hbox.two
    rw [show (33 - ((0 : Nat) : Int)) = 33 from rfl]
    go_enter Try.func31, Try.ntmps31
    go_wp2_with (first
      | (go_at_call 33; refine (wellHead _ ys 33 _ HL.out (by rw [HY.out]; exact (hu.drop _).take _)).mono ?_; rw [hE, hH]; unfold Hd.val Hd.zero; dsimp only; rintro e w1 ⟨rfl, hb1⟩; have HB1 := hid hb1)
      | (with_reducible refine at_span ?_; refine wpList_span _ rfl _ _ _ 22 rfl .u8 5 1 Try.underlying22 Try.infoU8 vb xs rfl HS.out .i64 .i64 (fr : Int) (lim : Int) rfl rfl (by omega) (by omega) (by omega) ?_; rw [Int.toNat_natCast, Int.toNat_natCast, ← HY.out]; intro vl hvl; have HL := hid hvl; clear hvl))
    go_ret2
    refine ⟨by simp [valW], grow_alloc (Below.grow HB1.out _) _, D, (HBX.out.below HB1.out HBX.out.lt).alloc _, fun h => by simp [valW] at h⟩
  | k + 1, fr, lim, D, B, w, hk, hfl, hlx, hb0, hB, hbox => by
    have ih := wellVal W0 vb xs hs0 hu k
    have hmx := hs0.len
    obtain ⟨ys, hys⟩ : ∃ ys, ys = (xs.drop fr).take (lim - fr) := ⟨_, rfl⟩
    rw [← hys]
    have hyl : ys.length = lim - fr := by rw [hys, List.length_take, List.length_drop]; omega
    have hyu : U8 ys := by rw [hys]; exact (hu.drop _).take _
    have HY := hid hys
    have HS := hid (hs0.below hb0)
    have HBX := hid hbox
    have HB0 := hid hb0
    have IH := hid ih
    obtain ⟨b0, b1, c0, c1⟩ := hbox.two
    clear hys ih hbox hs0 hb0
    obtain ⟨d, hd⟩ : ∃ d : Int, d = 33 - ((k + 1 : Nat) : Int) := ⟨_, rfl⟩
    rw [← hd]
    have hdE : headErr d ys = headE ys := by unfold headErr; rw [if_neg (by omega)]
    have hdH : headHd d ys = if headE ys = 0 then (rd ys).1 else Hd.zero := by unfold headHd; rw [hdE]
    by_cases hE : headE ys = 0
    · rw [if_pos hE] at hdH
      rw [hE] at hdE
      obtain ⟨_, ⟨_, _, l0, l1⟩, s2, sl, _⟩ := headE_ok hyu hE
      obtain ⟨e0, e1, e2⟩ := ends_of hyu hE
      have hs1 : (rd ys).1.size = (szS ys : Int) := by unfold szS; omega
      have hl1 : (rd ys).1.len = ((bodyS ys).length : Int) := by unfold endS at e1; omega
      have hv0 : ¬ (rd ys).1.cons = true → valW (k + 1) ys = ⟨0, endS ys, 1⟩ := fun h => oneW_leaf hE h
      have hv1 : (rd ys).1.cons = true → valW (k + 1) ys = if (listW (valW k) (bodyS ys)).e ≠ 0 then ⟨(listW (valW k) (bodyS ys)).e, szS ys + (listW (valW k) (bodyS ys)).pos, 0⟩ else ⟨0, endS ys, (listW (valW k) (bodyS ys)).deep + 1⟩ := fun h => oneW_in hE h
      have hbd := bodyS_u8 hyu
      have hcut : ∀ j, j ≤ (bodyS ys).length → (xs.drop (fr + szS ys + j)).take (fr + szS ys + (bodyS ys).length - (fr + szS ys + j)) = (bodyS ys).drop j := by
        intro j hj
        have hb : bodyS ys = (ys.drop (szS ys)).take (bodyS ys).length := by
          conv => lhs; unfold bodyS
          rw [hl1, Int.toNat_natCast]
        rw [span_body hfl (by omega) hj, ← HY.out, ← hb]
      rw [e1] at hv0 hv1 e2
      clear e1 sl s2 l0
      obtain ⟨⟨cls, tag, cons, len, size⟩, hrd⟩ : ∃ h, h = (rd ys).1 := ⟨_, rfl⟩
      rw [← hrd] at hs1 hl1 hv0 hv1 hdH l1
      dsimp only at hs1 hl1 hv0 hv1 l1
      subst hs1 hl1
      clear hrd
      generalize hss : szS ys = s at hv0 hv1 hdH hcut e0 e2 l1
      obtain ⟨zs, hzs⟩ : ∃ zs, zs = bodyS ys := ⟨_, rfl⟩
      rw [← hzs] at hv0 hv1 hdH hcut e2 l1 hbd
      have HCUT := hid hcut
      have HV0 := hid hv0
      have HV1 := hid hv1
      have HD := hid hd
      clear hss hzs hcut hv0 hv1 hd
      have hd : Hid (1 ≤ d ∧ d ≤ 32) := by have := HD.out; show _ ∧ _; omega
      obtain ⟨d0, d1⟩ := hd
      have hn1 : (fr : Int) + s + zs.length ≤ 9223372036854775807 := by omega
      cases cons
      · have hv0 := HV0.out (by simp)
        clear HV0 HV1 IH
        go_enter Try.func31, Try.ntmps31
        go_wp2_with (first
          | (go_at_call 33; refine (wellHead _ ys d _ HL.out hyu).mono ?_; rw [hdE, hdH]; unfold Hd.val; dsimp only; rintro e w1 ⟨rfl, hb1⟩; have HB1 := hid hb1; have HX1 := hid (HBX.out.below hb1 HBX.out.lt); obtain ⟨b0, b1, c0, c1⟩ := HX1.out.two; have hlt1 := HX1.out.lt)
          | (with_reducible refine at_span ?_; refine wpList_span _ rfl _ _ _ 22 rfl .u8 5 1 Try.underlying22 Try.infoU8 vb xs rfl HS.out .i64 .i64 (fr : Int) (lim : Int) rfl rfl (by omega) (by omega) (by omega) ?_; rw [Int.toNat_natCast, Int.toNat_natCast, ← HY.out]; intro vl hvl; have HL := hid hvl; clear hvl))
        · have hM : Hid (d = max D d) := by show _ = _; omega
          have HX2 := hid (show Box 58 [vb, .int .i64 d] B ((w1.setCell ⟨B, 1, none⟩ (.int .i64 d)).alloc (.cells #[.int .i64 cls, .int .i64 tag, .bool false, .int .i64 (zs.length : Int), .int .i64 (s : Int)] 35)) from (HX1.out.set 1 (.int .i64 d)).alloc _)
          have HH2 := hid (show Box 35 [.int .i64 cls, .int .i64 tag, .bool false, .int .i64 (zs.length : Int), .int .i64 (s : Int)] w1.heap.size ((w1.setCell ⟨B, 1, none⟩ (.int .i64 d)).alloc (.cells #[.int .i64 cls, .int .i64 tag, .bool false, .int .i64 (zs.length : Int), .int .i64 (s : Int)] 35)) by have := Box.made (w1.setCell ⟨B, 1, none⟩ (.int .i64 d)) 35 [.int .i64 cls, .int .i64 tag, .bool false, .int .i64 (zs.length : Int), .int .i64 (s : Int)]; simpa [World.setCell] using this)
          have HG2 := hid (show w.grownBy ((w1.setCell ⟨B, 1, none⟩ (.int .i64 d)).alloc (.cells #[.int .i64 cls, .int .i64 tag, .bool false, .int .i64 (zs.length : Int), .int .i64 (s : Int)] 35)) (some B) from grow_alloc (grow_set (Below.grow HB1.out _) 1 _) _)
          generalize (w1.setCell ⟨B, 1, none⟩ (.int .i64 d)).alloc (.cells #[.int .i64 cls, .int .i64 tag, .bool false, .int .i64 (zs.length : Int), .int .i64 (s : Int)] 35) = W2 at HX2 HH2 HG2 ⊢
          obtain ⟨H, hH⟩ : ∃ H, H = w1.heap.size := ⟨_, rfl⟩
          have hHB : Hid (H ≠ B) := by show _ ≠ _; omega
          rw [← hH] at HH2 ⊢
          clear hH
          obtain ⟨b0, b1, c0, c1⟩ := HX2.out.two
          obtain ⟨k0, k1, k2, k3, k4⟩ := HH2.out.five
          obtain ⟨f0, f1, f2, f3, f4⟩ := HH2.out.ice5
          have hltB := HX2.out.lt
          have hltH := HH2.out.lt
          go_loopw [11] (fun e wr => wr = W2 ∧ e = .int .i64 0) (fun _ _ => 0)
          case atStart => exact ⟨rfl, rfl⟩
          case round =>
            obtain ⟨rfl, rfl⟩ := hrel
            go_wp2
            go_ret2
            rw [hv0]
            refine ⟨ret_two (by dsimp only; omega) rfl, HG2.out, d, HX2.out, fun _ => ?_⟩
            have := hM.out
            have := HD.out
            dsimp only
            omega
        · have hM : Hid (D = max D d) := by show _ = _; omega
          have HX2 := hid (show Box 58 [vb, .int .i64 D] B ((w1.setCell ⟨B, 1, none⟩ (.int .i64 D)).alloc (.cells #[.int .i64 cls, .int .i64 tag, .bool false, .int .i64 (zs.length : Int), .int .i64 (s : Int)] 35)) from (HX1.out.set 1 (.int .i64 D)).alloc _)
          have HH2 := hid (show Box 35 [.int .i64 cls, .int .i64 tag, .bool false, .int .i64 (zs.length : Int), .int .i64 (s : Int)] w1.heap.size ((w1.setCell ⟨B, 1, none⟩ (.int .i64 D)).alloc (.cells #[.int .i64 cls, .int .i64 tag, .bool false, .int .i64 (zs.length : Int), .int .i64 (s : Int)] 35)) by have := Box.made (w1.setCell ⟨B, 1, none⟩ (.int .i64 D)) 35 [.int .i64 cls, .int .i64 tag, .bool false, .int .i64 (zs.length : Int), .int .i64 (s : Int)]; simpa [World.setCell] using this)
          have HG2 := hid (show w.grownBy ((w1.setCell ⟨B, 1, none⟩ (.int .i64 D)).alloc (.cells #[.int .i64 cls, .int .i64 tag, .bool false, .int .i64 (zs.length : Int), .int .i64 (s : Int)] 35)) (some B) from grow_alloc (grow_set (Below.grow HB1.out _) 1 _) _)
          generalize (w1.setCell ⟨B, 1, none⟩ (.int .i64 D)).alloc (.cells #[.int .i64 cls, .int .i64 tag, .bool false, .int .i64 (zs.length : Int), .int .i64 (s : Int)] 35) = W2 at HX2 HH2 HG2 ⊢
          obtain ⟨H, hH⟩ : ∃ H, H = w1.heap.size := ⟨_, rfl⟩
          have hHB : Hid (H ≠ B) := by show _ ≠ _; omega
          rw [← hH] at HH2 ⊢
          clear hH
          obtain ⟨b0, b1, c0, c1⟩ := HX2.out.two
          obtain ⟨k0, k1, k2, k3, k4⟩ := HH2.out.five
          obtain ⟨f0, f1, f2, f3, f4⟩ := HH2.out.ice5
          have hltB := HX2.out.lt
          have hltH := HH2.out.lt
          go_loopw [11] (fun e wr => wr = W2 ∧ e = .int .i64 0) (fun _ _ => 0)
          case atStart => exact ⟨rfl, rfl⟩
          case round =>
            obtain ⟨rfl, rfl⟩ := hrel
            go_wp2
            go_ret2
            rw [hv0]
            refine ⟨ret_two (by dsimp only; omega) rfl, HG2.out, D, HX2.out, fun _ => ?_⟩
            have := hM.out
            have := HD.out
            dsimp only
            omega
      · have hv1 := HV1.out rfl
        clear HV0 HV1
        have IH2 : ∀ (j : Nat) (Dn : Int) (wr : World), j ≤ zs.length → w.grownBy wr (some B) → Box 58 [vb, .int .i64 Dn] B wr →
            Calls Try.prog 31 #[.pointer (some ⟨B, 0, none⟩), .int .i64 ((fr : Int) + s + j), .int .i64 ((fr : Int) + s + zs.length), .int .i64 (d + 1)] wr fun e w' =>
              e = .returned (.tuple #[.int .i64 ((fr : Int) + s + j + ((valW k (zs.drop j)).pos : Int)), .int .i64 (valW k (zs.drop j)).e]) ∧ wr.grownBy w' (some B) ∧
              ∃ D', Box 58 [vb, .int .i64 D'] B w' ∧ ((valW k (zs.drop j)).e = 0 → D' = max Dn (d + ((valW k (zs.drop j)).deep : Int))) := by
          intro j Dn wr hj hg hbx
          have hsz := HB0.out.size
          have := IH.out (fr + s + j) (fr + s + zs.length) Dn B wr (by omega) (by omega) (by omega) (below_grow HB0.out hg hsz hB) hB hbx
          rw [HCUT.out j hj] at this
          have e1 : (33 - (k : Int)) = d + 1 := by have := HD.out; omega
          have e2 : (32 - (k : Int)) = d := by have := HD.out; omega
          rw [e1, e2, Int.natCast_add, Int.natCast_add, Int.natCast_add, Int.natCast_add] at this
          exact this
        clear IH
        go_enter Try.func31, Try.ntmps31
        go_wp2_with (first
          | (go_at_call 33; refine (wellHead _ ys d _ HL.out hyu).mono ?_; rw [hdE, hdH]; unfold Hd.val; dsimp only; rintro e w1 ⟨rfl, hb1⟩; have HB1 := hid hb1; have HX1 := hid (HBX.out.below hb1 HBX.out.lt); obtain ⟨b0, b1, c0, c1⟩ := HX1.out.two; have hlt1 := HX1.out.lt)
          | (with_reducible refine at_span ?_; refine wpList_span _ rfl _ _ _ 22 rfl .u8 5 1 Try.underlying22 Try.infoU8 vb xs rfl HS.out .i64 .i64 (fr : Int) (lim : Int) rfl rfl (by omega) (by omega) (by omega) ?_; rw [Int.toNat_natCast, Int.toNat_natCast, ← HY.out]; intro vl hvl; have HL := hid hvl; clear hvl))
        · have hM : Hid (d = max D d) := by show _ = _; omega
          have HX2 := hid (show Box 58 [vb, .int .i64 d] B ((w1.setCell ⟨B, 1, none⟩ (.int .i64 d)).alloc (.cells #[.int .i64 cls, .int .i64 tag, .bool true, .int .i64 (zs.length : Int), .int .i64 (s : Int)] 35)) from (HX1.out.set 1 (.int .i64 d)).alloc _)
          have HH2 := hid (show Box 35 [.int .i64 cls, .int .i64 tag, .bool true, .int .i64 (zs.length : Int), .int .i64 (s : Int)] w1.heap.size ((w1.setCell ⟨B, 1, none⟩ (.int .i64 d)).alloc (.cells #[.int .i64 cls, .int .i64 tag, .bool true, .int .i64 (zs.length : Int), .int .i64 (s : Int)] 35)) by have := Box.made (w1.setCell ⟨B, 1, none⟩ (.int .i64 d)) 35 [.int .i64 cls, .int .i64 tag, .bool true, .int .i64 (zs.length : Int), .int .i64 (s : Int)]; simpa [World.setCell] using this)
          have HG2 := hid (show w.grownBy ((w1.setCell ⟨B, 1, none⟩ (.int .i64 d)).alloc (.cells #[.int .i64 cls, .int .i64 tag, .bool true, .int .i64 (zs.length : Int), .int .i64 (s : Int)] 35)) (some B) from grow_alloc (grow_set (Below.grow HB1.out _) 1 _) _)
          generalize (w1.setCell ⟨B, 1, none⟩ (.int .i64 d)).alloc (.cells #[.int .i64 cls, .int .i64 tag, .bool true, .int .i64 (zs.length : Int), .int .i64 (s : Int)] 35) = W2 at HX2 HH2 HG2 ⊢
          obtain ⟨H, hH⟩ : ∃ H, H = w1.heap.size := ⟨_, rfl⟩
          have hHB : Hid (H ≠ B) := by show _ ≠ _; omega
          rw [← hH] at HH2 ⊢
          clear hH
          have HM := hid hM
          go_loopw [11, 12] (fun e i wr => ∃ (j Dc : Nat) (Dn : Int), j ≤ zs.length ∧ e = .int .i64 0 ∧ i = .int .i64 ((fr : Int) + s + j) ∧ Hid (listW (valW k) zs = joinW j Dc (listW (valW k) (zs.drop j))) ∧ Hid (Dn = max D (d + Dc)) ∧ Hid (w.grownBy wr (some B)) ∧ Hid (Box 58 [vb, .int .i64 Dn] B wr) ∧ Hid (Box 35 [.int .i64 cls, .int .i64 tag, .bool true, .int .i64 (zs.length : Int), .int .i64 (s : Int)] H wr)) (fun _ i _ => ((fr : Int) + s + zs.length - intOf i).toNat)
          case atStart => exact ⟨0, 0, d, Nat.zero_le _, rfl, by go_num, by show _ = _; rw [List.drop_zero, joinW_zero _ (listW_deep _ _)], by have := hM.out; show _ = _; omega, HG2, HX2, HH2⟩
          case round =>
            obtain ⟨j, Dc, Dn, hj, rfl, rfl, hL, hDn, hg, hbx, hhd⟩ := hrel
            obtain ⟨b0, b1, c0, c1⟩ := hbx.out.two
            obtain ⟨k0, k1, k2, k3, k4⟩ := hhd.out.five
            obtain ⟨f0, f1, f2, f3, f4⟩ := hhd.out.ice5
            have hltB := hbx.out.lt
            have hltH := hhd.out.lt
            clear HX1 HX2 HH2 HG2 hM HB1 HL
            by_cases hlt : j < zs.length
            · have hne : zs.drop j ≠ [] := by intro h; have := congrArg List.length h; simp at this; omega
              obtain ⟨⟨E, P, Q⟩, hR⟩ : ∃ R, R = valW k (zs.drop j) := ⟨_, rfl⟩
              have hbd2 := valW_bd k (zs.drop j) (hbd.drop j)
              have IH3 := IH2 j Dn wr hj hg.out hbx.out
              rw [← hR] at hbd2 IH3
              rw [List.length_drop] at hbd2
              dsimp only at hbd2 IH3
              have I3 := hid IH3
              have HR := hid hR
              have HBD := hid hbd2
              have HP : P ≤ zs.length - j := hbd2.1
              clear hbd2 IH3 hR hbd
              by_cases hE2 : E = 0
              · subst hE2
                go_wp2_with (go_at_call 31; refine (I3.out).mono ?_; rintro e w2 ⟨rfl, hg2, D2, hbx2, hD2⟩; have HG3 := hid hg2; have HX3 := hid hbx2; have HD2 := hid hD2; have HH3 := hid (hhd.out.grow hg2 hHB.out); clear hg2 hbx2 hD2)
                go_roundw
                case rel =>
                  refine ⟨j + P, max Dc Q, D2, by omega, rfl, by go_num, ?_, ?_, hid (grow_then hg.out HG3.out), HX3, HH3⟩
                  · show _ = _
                    have := HBD.out.2 (by simp)
                    rw [hL.out, listW_on hne (by rw [← HR.out]) (by rw [← HR.out]; dsimp only; omega), ← HR.out, joinW_joinW, List.drop_drop]
                  · show _ = _
                    have := HD2.out (by simp)
                    have := hDn.out
                    omega
                case measure => have := HBD.out.2 (by simp); simp [intOf]; omega
              · have hE3 : (E != 0) = true := by simp [hE2]
                have HE2 := hid hE2
                clear hE2
                go_wp2_with (go_at_call 31; refine (I3.out).mono ?_; rintro e w2 ⟨rfl, hg2, D2, hbx2, hD2⟩; have HG3 := hid hg2; have HX3 := hid hbx2; clear hg2 hbx2 hD2)
                go_ret2
                have hv2 : valW (k + 1) ys = ⟨E, s + (j + P), 0⟩ := by
                  have hlw : listW (valW k) zs = ⟨E, j + P, 0⟩ := by
                    rw [hL.out, listW_err hne (by rw [← HR.out]; exact HE2.out), ← HR.out]
                    unfold joinW
                    rw [if_pos HE2.out]
                  rw [hv1, hlw, if_pos HE2.out]
                rw [hv2]
                refine ⟨ret_two (by dsimp only; omega) rfl, grow_then hg.out HG3.out, D2, HX3.out, fun h => absurd h HE2.out⟩
            · have hjl : zs.drop j = [] := List.drop_eq_nil_of_le (by omega)
              go_wp2
              go_ret2
              have hv2 : valW (k + 1) ys = ⟨0, s + zs.length, Dc + 1⟩ := by
                have hlw : listW (valW k) zs = ⟨0, j, Dc⟩ := by
                  rw [hL.out, hjl, listW_nil]; simp [joinW]
                rw [hv1, hlw, if_neg (by simp)]
              rw [hv2]
              refine ⟨ret_two (by dsimp only; omega) rfl, hg.out, Dn, hbx.out, fun _ => ?_⟩
              have := hDn.out
              have := HD.out
              dsimp only
              omega
        · have hM : Hid (D = max D d) := by show _ = _; omega
          have HX2 := hid (show Box 58 [vb, .int .i64 D] B ((w1.setCell ⟨B, 1, none⟩ (.int .i64 D)).alloc (.cells #[.int .i64 cls, .int .i64 tag, .bool true, .int .i64 (zs.length : Int), .int .i64 (s : Int)] 35)) from (HX1.out.set 1 (.int .i64 D)).alloc _)
          have HH2 := hid (show Box 35 [.int .i64 cls, .int .i64 tag, .bool true, .int .i64 (zs.length : Int), .int .i64 (s : Int)] w1.heap.size ((w1.setCell ⟨B, 1, none⟩ (.int .i64 D)).alloc (.cells #[.int .i64 cls, .int .i64 tag, .bool true, .int .i64 (zs.length : Int), .int .i64 (s : Int)] 35)) by have := Box.made (w1.setCell ⟨B, 1, none⟩ (.int .i64 D)) 35 [.int .i64 cls, .int .i64 tag, .bool true, .int .i64 (zs.length : Int), .int .i64 (s : Int)]; simpa [World.setCell] using this)
          have HG2 := hid (show w.grownBy ((w1.setCell ⟨B, 1, none⟩ (.int .i64 D)).alloc (.cells #[.int .i64 cls, .int .i64 tag, .bool true, .int .i64 (zs.length : Int), .int .i64 (s : Int)] 35)) (some B) from grow_alloc (grow_set (Below.grow HB1.out _) 1 _) _)
          generalize (w1.setCell ⟨B, 1, none⟩ (.int .i64 D)).alloc (.cells #[.int .i64 cls, .int .i64 tag, .bool true, .int .i64 (zs.length : Int), .int .i64 (s : Int)] 35) = W2 at HX2 HH2 HG2 ⊢
          obtain ⟨H, hH⟩ : ∃ H, H = w1.heap.size := ⟨_, rfl⟩
          have hHB : Hid (H ≠ B) := by show _ ≠ _; omega
          rw [← hH] at HH2 ⊢
          clear hH
          have HM := hid hM
          go_loopw [11, 12] (fun e i wr => ∃ (j Dc : Nat) (Dn : Int), j ≤ zs.length ∧ e = .int .i64 0 ∧ i = .int .i64 ((fr : Int) + s + j) ∧ Hid (listW (valW k) zs = joinW j Dc (listW (valW k) (zs.drop j))) ∧ Hid (Dn = max D (d + Dc)) ∧ Hid (w.grownBy wr (some B)) ∧ Hid (Box 58 [vb, .int .i64 Dn] B wr) ∧ Hid (Box 35 [.int .i64 cls, .int .i64 tag, .bool true, .int .i64 (zs.length : Int), .int .i64 (s : Int)] H wr)) (fun _ i _ => ((fr : Int) + s + zs.length - intOf i).toNat)
          case atStart => exact ⟨0, 0, D, Nat.zero_le _, rfl, by go_num, by show _ = _; rw [List.drop_zero, joinW_zero _ (listW_deep _ _)], by have := hM.out; show _ = _; omega, HG2, HX2, HH2⟩
          case round =>
            obtain ⟨j, Dc, Dn, hj, rfl, rfl, hL, hDn, hg, hbx, hhd⟩ := hrel
            obtain ⟨b0, b1, c0, c1⟩ := hbx.out.two
            obtain ⟨k0, k1, k2, k3, k4⟩ := hhd.out.five
            obtain ⟨f0, f1, f2, f3, f4⟩ := hhd.out.ice5
            have hltB := hbx.out.lt
            have hltH := hhd.out.lt
            clear HX1 HX2 HH2 HG2 hM HB1 HL
            by_cases hlt : j < zs.length
            · have hne : zs.drop j ≠ [] := by intro h; have := congrArg List.length h; simp at this; omega
              obtain ⟨⟨E, P, Q⟩, hR⟩ : ∃ R, R = valW k (zs.drop j) := ⟨_, rfl⟩
              have hbd2 := valW_bd k (zs.drop j) (hbd.drop j)
              have IH3 := IH2 j Dn wr hj hg.out hbx.out
              rw [← hR] at hbd2 IH3
              rw [List.length_drop] at hbd2
              dsimp only at hbd2 IH3
              have I3 := hid IH3
              have HR := hid hR
              have HBD := hid hbd2
              have HP : P ≤ zs.length - j := hbd2.1
              clear hbd2 IH3 hR hbd
              by_cases hE2 : E = 0
              · subst hE2
                go_wp2_with (go_at_call 31; refine (I3.out).mono ?_; rintro e w2 ⟨rfl, hg2, D2, hbx2, hD2⟩; have HG3 := hid hg2; have HX3 := hid hbx2; have HD2 := hid hD2; have HH3 := hid (hhd.out.grow hg2 hHB.out); clear hg2 hbx2 hD2)
                go_roundw
                case rel =>
                  refine ⟨j + P, max Dc Q, D2, by omega, rfl, by go_num, ?_, ?_, hid (grow_then hg.out HG3.out), HX3, HH3⟩
                  · show _ = _
                    have := HBD.out.2 (by simp)
                    rw [hL.out, listW_on hne (by rw [← HR.out]) (by rw [← HR.out]; dsimp only; omega), ← HR.out, joinW_joinW, List.drop_drop]
                  · show _ = _
                    have := HD2.out (by simp)
                    have := hDn.out
                    omega
                case measure => have := HBD.out.2 (by simp); simp [intOf]; omega
              · have hE3 : (E != 0) = true := by simp [hE2]
                have HE2 := hid hE2
                clear hE2
                go_wp2_with (go_at_call 31; refine (I3.out).mono ?_; rintro e w2 ⟨rfl, hg2, D2, hbx2, hD2⟩; have HG3 := hid hg2; have HX3 := hid hbx2; clear hg2 hbx2 hD2)
                go_ret2
                have hv2 : valW (k + 1) ys = ⟨E, s + (j + P), 0⟩ := by
                  have hlw : listW (valW k) zs = ⟨E, j + P, 0⟩ := by
                    rw [hL.out, listW_err hne (by rw [← HR.out]; exact HE2.out), ← HR.out]
                    unfold joinW
                    rw [if_pos HE2.out]
                  rw [hv1, hlw, if_pos HE2.out]
                rw [hv2]
                refine ⟨ret_two (by dsimp only; omega) rfl, grow_then hg.out HG3.out, D2, HX3.out, fun h => absurd h HE2.out⟩
            · have hjl : zs.drop j = [] := List.drop_eq_nil_of_le (by omega)
              go_wp2
              go_ret2
              have hv2 : valW (k + 1) ys = ⟨0, s + zs.length, Dc + 1⟩ := by
                have hlw : listW (valW k) zs = ⟨0, j, Dc⟩ := by
                  rw [hL.out, hjl, listW_nil]; simp [joinW]
                rw [hv1, hlw, if_neg (by simp)]
              rw [hv2]
              refine ⟨ret_two (by dsimp only; omega) rfl, hg.out, Dn, hbx.out, fun _ => ?_⟩
              have := hDn.out
              have := HD.out
              dsimp only
              omega
    · have hv : valW (k + 1) ys = ⟨headE ys, 0, 0⟩ := oneW_bad hE
      rw [hv]
      rw [if_neg hE] at hdH
      have hE1 : (headE ys != 0) = true := by simp [hE]
      have HD := hid hd
      clear hv hd hyl
      have hd : Hid (0 ≤ d ∧ d ≤ 32) := by have := HD.out; show _ ∧ _; omega
      go_enter Try.func31, Try.ntmps31
      go_wp2_with (first
        | (go_at_call 33; refine (wellHead _ ys d _ HL.out hyu).mono ?_; rw [hdE, hdH]; unfold Hd.val Hd.zero; dsimp only; rintro e w1 ⟨rfl, hb1⟩; have HB1 := hid hb1)
        | (with_reducible refine at_span ?_; refine wpList_span _ rfl _ _ _ 22 rfl .u8 5 1 Try.underlying22 Try.infoU8 vb xs rfl HS.out .i64 .i64 (fr : Int) (lim : Int) rfl rfl (by omega) (by omega) (by omega) ?_; rw [Int.toNat_natCast, Int.toNat_natCast, ← HY.out]; intro vl hvl; have HL := hid hvl; clear hvl))
      go_ret2
      refine ⟨by simp, grow_alloc (Below.grow HB1.out _) _, D, (HBX.out.below HB1.out HBX.out.lt).alloc _, fun h => absurd h hE⟩

end Go.Proofs.Ytgjjncoelbhpeaa
