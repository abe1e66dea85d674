/- Contracts of appendLength and Bytes of package tlv. -/
import Derived.Test.YtbdmnahkfmildaaTlv4
import Derived.Deep.RegionHeld3
namespace Go.Proofs.Ytbdmnahkfmildaa
open Go.RowKit

theorem be_start {n c g : Nat} (h : n < 2 ^ c) (h1 : c ≤ 8 * g) : n / 256 ^ g = 0 := by
  apply Nat.div_eq_of_lt
  have : (256 : Nat) ^ g = 2 ^ (8 * g) := by rw [Nat.pow_mul]
  rw [this]
  exact Nat.lt_of_lt_of_le h (Nat.pow_le_pow_right (by decide) h1)
theorem be_nz {n c g : Nat} (h : 2 ^ (c - 1) ≤ n) (h1 : 8 * g ≤ c + 7) (i : Nat) (hi : i < g) : 256 ^ i ≤ n := by
  have e : (256 : Nat) ^ i = 2 ^ (8 * i) := by rw [Nat.pow_mul]
  rw [e]; exact Nat.le_trans (Nat.pow_le_pow_right (by decide) (by omega)) h
theorem shr_be (n : Int) (h : 0 ≤ n) (i : Nat) : n / 2 ^ (8 * i) % 256 = ((n.toNat / 256 ^ i % 256 : Nat) : Int) := by
  obtain ⟨m, rfl⟩ := Int.eq_ofNat_of_zero_le h
  rw [show (256 : Nat) ^ i = 2 ^ (8 * i) by rw [Nat.pow_mul]]
  simp

set_option maxHeartbeats 2000000 in
theorem appendLen (n : Int) (v : Value) (xs : List Int) (base : Nat) (w : World) (n0 : 0 ≤ n) (n1 : n ≤ 2147483647) (hown : Own .u8 5 base w v xs) (hbase : base ≤ w.heap.size) (hl : xs.length ≤ 1000000000000) :
    Calls Try.prog 23 #[v, .int .i64 n] w fun e w' => ∃ v', e = .returned v' ∧ Own .u8 5 base w' v' (xs ++ lenB n) ∧ Below base w w' := by
  have HO := hid hown
  clear hown
  by_cases hs : n < 128
  · have e : lenB n = [n] := by unfold lenB; rw [if_pos hs]
    rw [e]
    clear e
    go_enter Try.func23, Try.ntmps23
    go_wp2_with (at_builtin; refine wpList_app _ rfl _ _ 22 rfl .u8 base 5 1 Try.underlying22 Try.infoU8 _ xs [n] rfl (HO.out.below (by (repeat (first | exact Below.refl _ _ | exact below_drewN _ | refine Below.drew ?_ | refine Below.alloc ?_ (by simp) _ | refine Below.setCell ?_ (by simp) _ | refine below_drewN' ?_ _)))) _ rfl (one_sl (by simp)) (by unfold maxLen; simp; omega) (by simp; omega) (by simp; omega) ?_; intro v' w' ho hg hb hn)
    go_ret
    refine ⟨_, rfl, ho, Below.trans ?_ hb⟩
    (repeat (first | exact Below.refl _ _ | exact below_drewN _ | refine Below.drew ?_ | refine Below.alloc ?_ (by simp; omega) _ | refine Below.alloc ?_ (by omega) _ | refine Below.setCell ?_ (by simp; omega) _ | refine below_drewN' ?_ _))
  · have e : lenB n = (128 + ((be n.toNat).length : Int)) :: be n.toNat := by unfold lenB; rw [if_neg hs]
    rw [e]
    clear e
    obtain ⟨b1, b2, b3, b4⟩ := bitLen_fix n.toNat (by omega)
    have b2 := b2 (by omega)
    have b3 := b3 (by omega)
    obtain ⟨c, hc⟩ : ∃ c, c = Lib.bitLen n.toNat := ⟨_, rfl⟩
    rw [← hc] at b1 b2 b3 b4
    have HCC := hid hc
    clear hc
    obtain ⟨g, hg1, hg2⟩ : ∃ g : Nat, 8 * g ≤ c + 7 ∧ c ≤ 8 * g := ⟨(c + 7) / 8, by omega, by omega⟩
    have HS0 := hid (be_start (n := n.toNat) (g := g) b1 hg2)
    have HS1 := hid (be_nz (n := n.toNat) (g := g) b2 hg1)
    have hgl : (be n.toNat).length = g := by
      match g, hg1, hg2, HS0, HS1 with
      | 0, h1, h2, _, _ => omega
      | g + 1, h1, h2, h3, h4 => exact be_len' g n.toNat (Nat.lt_of_not_le fun hle => by have := Nat.div_pos hle (Nat.pow_pos (by decide)); rw [h3.out] at this; omega) (h4.out g (by omega))
    rw [hgl]
    clear hgl b1 b2
    have hg3 : ((c : Int) + 7) / 8 = (g : Int) := by omega
    have q4 : ((g : Int)) % 256 = (g : Int) := by omega
    go_enter Try.func23, Try.ntmps23
    go_wp2_with (first
      | (at_builtin; refine wpList_app _ rfl _ _ 22 rfl .u8 base 5 1 Try.underlying22 Try.infoU8 _ xs [128 + (g : Int)] rfl (HO.out.below (by (repeat (first | exact Below.refl _ _ | exact below_drewN _ | refine Below.drew ?_ | refine Below.alloc ?_ (by simp) _ | refine Below.setCell ?_ (by simp) _ | refine below_drewN' ?_ _)))) _ rfl (one_sl (by simp)) (by unfold maxLen; simp; omega) (by simp; omega) (by simp; omega) ?_; intro v1 w1 ho hg hb hn; have hz1 := hg.size; simp at hz1)
      | (go_at_call 28; refine (bitsLen _ _ (by omega) (by omega)).mono ?_; rintro e w' ⟨rfl, rfl⟩; rw [← HCC.out]))
    have HOO := hid ho
    have HG := hid hb
    clear ho hb hg
    go_loopw [0, 6] (fun dv iv wr => ∃ j : Nat, iv = .int .i64 ((j : Int) - 1) ∧ j ≤ g ∧ Own .u8 5 base wr dv (xs ++ [128 + (g : Int)] ++ be (n.toNat / 256 ^ j)) ∧ Hid (Below base w wr) ∧ base ≤ wr.heap.size) (fun _ iv _ => (intOf iv + 1).toNat)
    case atStart =>
      refine ⟨g, by congr 1, by omega, ?_, Below.trans ?_ HG.out, by omega⟩
      · rw [HS0.out, be_zero, List.append_nil]; exact HOO.out
      · (repeat (first | exact Below.refl _ _ | exact below_drewN _ | refine Below.drew ?_ | refine Below.alloc ?_ (by simp; omega) _ | refine Below.alloc ?_ (by omega) _ | refine Below.setCell ?_ (by simp; omega) _ | refine below_drewN' ?_ _))
    case round =>
      obtain ⟨j, rfl, hj, hown, hbel, hsz⟩ := hrel
      have HOW := hid hown
      clear hown
      have hlen : (be (n.toNat / 256 ^ j)).length ≤ 8 := be_len 8 _ (Nat.lt_of_le_of_lt (Nat.div_le_self _ _) (by omega))
      rcases Nat.eq_zero_or_pos j with h0 | h0
      · subst h0
        go_wp2
        go_ret
        refine ⟨_, rfl, ?_, hbel.out⟩
        simpa using HOW.out
      · obtain ⟨i, rfl⟩ : ∃ i, j = i + 1 := ⟨j - 1, by omega⟩
        have e1 : ((i + 1 : Nat) : Int) - 1 = (i : Int) := by omega
        obtain ⟨y, q6, hy⟩ : ∃ y : Int, n / 2 ^ (8 * i) % 256 = y ∧ y = ((n.toNat / 256 ^ i % 256 : Nat) : Int) := ⟨_, shr_be n n0 i, rfl⟩
        have HY := hid hy
        clear hy
        rw [e1]
        go_wp2_with (at_builtin; refine wpList_app _ rfl _ _ 22 rfl .u8 base 5 1 Try.underlying22 Try.infoU8 _ (xs ++ [128 + (g : Int)] ++ be (n.toNat / 256 ^ (i + 1))) [y] rfl (HOW.out.below (by (repeat (first | exact Below.refl _ _ | exact below_drewN _ | refine Below.drew ?_ | refine Below.alloc ?_ (by simp) _ | refine Below.setCell ?_ (by simp) _ | refine below_drewN' ?_ _)))) _ rfl (one_sl (by simp)) (by unfold maxLen; simp; omega) (by simp; omega) (by simp; omega) ?_; intro v2 w2 ho2 hg2 hb2 hn2)
        have hz2 := hg2.size
        simp at hz2
        go_roundw
        case rel =>
          refine ⟨i, by go_num, by omega, ?_, (hbel.out.trans ?_).trans hb2, by omega⟩
          · have hnz : n.toNat / 256 ^ i ≠ 0 := by
              have := Nat.div_pos (HS1.out i (by omega)) (Nat.pow_pos (by decide))
              omega
            rw [be_pos hnz, ← HY.out, Nat.div_div_eq_div_mul, ← Nat.pow_succ, ← List.append_assoc]
            exact ho2
          · (repeat (first | exact Below.refl _ _ | exact below_drewN _ | refine Below.drew ?_ | refine Below.alloc ?_ (by simp; omega) _ | refine Below.alloc ?_ (by omega) _ | refine Below.setCell ?_ (by simp; omega) _ | refine below_drewN' ?_ _))
        case measure => simp [intOf]

theorem bytesBad (h : Hd) (w : World) (hok : ¬ HdOk h) :
    Calls Try.prog 11 #[h.val] w fun e w' => e = .returned (.tuple #[.slice none 0 0, .int .i64 1]) ∧ Below w.heap.size w w' := by
  have hf : hdOk h = false := by simp [hdOk, hok]
  obtain ⟨cls, tag, cons, len, size⟩ := h
  have HV := fun W => tlvValid ⟨cls, tag, cons, len, size⟩ W
  rw [hf] at HV
  have HVH : Hid (∀ W : World, _) := HV
  clear HV hf hok
  unfold Hd.val
  go_enter Try.func11, Try.ntmps11
  go_wp2_with (go_at_call 22; refine (HVH.out _).mono ?_; rintro e w1 ⟨rfl, hb⟩)
  go_ret2
  refine ⟨rfl, Below.trans ?_ (hb.mono (by simp))⟩
  (repeat (first | exact Below.refl _ _ | exact below_drewN _ | refine Below.drew ?_ | refine Below.alloc ?_ (by simp; omega) _ | refine Below.alloc ?_ (by omega) _ | refine Below.setCell ?_ (by simp; omega) _ | refine below_drewN' ?_ _))

set_option maxHeartbeats 1000000 in
theorem bytesOk (h : Hd) (w : World) (hok : HdOk h) :
    Calls Try.prog 11 #[h.val] w fun e w' => ∃ v', e = .returned (.tuple #[v', .int .i64 0]) ∧ Own .u8 5 w.heap.size w' v' (hdB h) ∧ Below w.heap.size w w' := by
  have hf : hdOk h = true := hdOk_iff.2 hok
  have hlid : (idB h).length ≤ 268435460 := by
    unfold idB
    split
    · simp
    · have h1 := septHi_len _ (h.tag.toNat / 128) (Nat.le_refl _)
      obtain ⟨_, ⟨_, t1⟩, _⟩ := hok
      simp [sept]
      omega
  obtain ⟨cls, tag, cons, len, size⟩ := h
  have HV := fun W => tlvValid ⟨cls, tag, cons, len, size⟩ W
  rw [hf] at HV
  have HVH : Hid (∀ W : World, _) := HV
  have HK := hid hok
  clear HV hf hok
  unfold Hd.val
  go_enter Try.func11, Try.ntmps11
  go_wp2_with (go_at_call 22; refine (HVH.out _).mono ?_; rintro e w1 ⟨rfl, hb⟩; have HX1 := hid (Box.below (Box.made w 24 [.int .i64 cls, .int .i64 tag, .bool cons, .int .i64 len, .int .i64 size]) hb (by simp)); have hz1 := hb.size; simp at hz1; have HB1 := hid hb; clear hb)
  have c0 := HX1.out.cell 0
  have c1 := HX1.out.cell 1
  have c2 := HX1.out.cell 2
  have c3 := HX1.out.cell 3
  have c4 := HX1.out.cell 4
  go_region_held3 (fun w' => w'.cell? ⟨w.heap.size, 0, none⟩ = some (.int .i64 cls) ∧ w'.cell? ⟨w.heap.size, 1, none⟩ = some (.int .i64 tag) ∧ w'.cell? ⟨w.heap.size, 2, none⟩ = some (.bool cons) ∧ w'.cell? ⟨w.heap.size, 3, none⟩ = some (.int .i64 len) ∧ w'.cell? ⟨w.heap.size, 4, none⟩ = some (.int .i64 size))
    (first | exact ⟨HX3.out.cell 0, HX3.out.cell 1, HX3.out.cell 2, HX3.out.cell 3, HX3.out.cell 4⟩ | exact ⟨HX1.out.cell 0, HX1.out.cell 1, HX1.out.cell 2, HX1.out.cell 3, HX1.out.cell 4⟩ | exact ⟨HX2.out.cell 0, HX2.out.cell 1, HX2.out.cell 2, HX2.out.cell 3, HX2.out.cell 4⟩ | go_keep)
    (first
      | (go_at_call 24; refine (appendIdent ⟨cls, tag, cons, len, size⟩ _ [] (w.heap.size + 1) _ HK.out (Own.nil _ _ _ _) (by first | omega | (simp; omega) | simp) (by simp)).mono ?_; rintro e w2 ⟨v2, rfl, ho2, hb2⟩; have HX2 := hid (Box.below (Box.drewN HX1.out 1) hb2 (by omega)); have hz2 := hb2.size; simp at hz2)
      | (go_at_call 23; refine (appendLen len v2 ([] ++ idB ⟨cls, tag, cons, len, size⟩) (w.heap.size + 1) _ HK.out.2.2.1 HK.out.2.2.2 ho2 (by first | omega | (simp; omega) | simp) (by first | omega | (simp; omega) | simp)).mono ?_; rintro e w3 ⟨v3, rfl, ho3, hb3⟩; have HX3 := hid (HX2.out.below hb3 (by omega))))
  go_wp2
  go_ret2
  refine ⟨v3, rfl, by simpa [hdB] using ho3.mono (by omega), ?_⟩
  refine Below.trans (Below.trans (Below.drew (Below.trans ?_ (HB1.out.mono (by simp)))) (hb2.mono (by omega))) (hb3.mono (by omega))
  (repeat (first | exact Below.refl _ _ | exact below_drewN _ | refine Below.drew ?_ | refine Below.alloc ?_ (by simp; omega) _ | refine Below.alloc ?_ (by omega) _ | refine Below.setCell ?_ (by simp; omega) _ | refine below_drewN' ?_ _))

theorem tlvFresh (v : Value) (xs : List Int) (w : World) (h : Sl .u8 w v xs) (hl : xs.length ≤ 100000000000000) :
    Calls Try.prog 25 #[v] w fun e w' => ∃ v', e = .returned v' ∧ Own .u8 5 w.heap.size w' v' xs ∧ Below w.heap.size w w' := by
  have H := hid h
  obtain ⟨a, cap, rfl, -, -, -⟩ := h
  obtain ⟨i0, hi, hz0, hz1, hz2⟩ := info_parts Try.infoU8
  go_enter Try.func25, Try.ntmps25
  go_wp2_with (first
    | (at_make; refine wpList_make_own _ rfl _ _ 22 rfl w.heap.size 5 i0 (.int .u8 0) 1 Try.underlying22 hi hz0 hz1 _ _ _ xs.length rfl rfl rfl (by rw [hz2]; omega) (by unfold maxLen; omega) (by omega) ?_; intro w1 ho1 hg1; have hb1 := hid ((Below.refl w.heap.size w).grown hg1 (by omega) (fun _ h => by cases h)))
    | (at_builtin; refine wpList_app _ rfl _ _ 22 rfl .u8 w.heap.size 5 1 Try.underlying22 Try.infoU8 _ [] xs rfl ho1 _ rfl (H.out.below hb1.out) (by unfold maxLen; simp; omega) (by simp; omega) (by have := hb1.out.size; omega) ?_; intro v' w' ho hg hb hn))
  go_ret
  exact ⟨_, rfl, ho, hb1.out.trans hb⟩

end Go.Proofs.Ytbdmnahkfmildaa
