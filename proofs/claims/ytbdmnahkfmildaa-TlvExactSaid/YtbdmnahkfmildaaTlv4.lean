/- Contracts of the writers of package tlv: valid, appendIdentifier, appendLength and Bytes. -/
import Derived.Test.YtbdmnahkfmildaaTlv3
import Derived.Test.YtbdmnahkfmildaaBits
namespace Go.Proofs.Ytbdmnahkfmildaa
open Go.RowKit

theorem tlvValid (h : Hd) (w : World) :
    Calls Try.prog 22 #[h.val] w fun e w' => e = .returned (.bool (hdOk h)) ∧ Below w.heap.size w w' := by
  obtain ⟨cls, tag, cons, len, size⟩ := h
  unfold Hd.val
  dsimp only
  go_enter Try.func22, Try.ntmps22
  go_wp2
  all_goals go_ret
  all_goals
    refine ⟨ret_bool ?_, by (repeat (first | exact Below.refl _ _ | exact below_drewN _ | refine Below.drew ?_ | refine Below.alloc ?_ (by simp) _ | refine Below.setCell ?_ (by simp) _ | refine below_drewN' ?_ _))⟩
    rw [Bool.eq_iff_iff, hdOk_iff]
    simp only [HdOk, decide_eq_true_eq, Bool.false_eq_true]
    first | omega | (simp only [false_iff]; omega)

theorem or_128 : ∀ x : Int, 0 ≤ x → x ≤ 255 → bits .or .u8 128 x = 128 + x % 128 := all_u8 (by decide +kernel)
theorem or_first_all : ∀ (c : Fin 8) (t : Fin 32), bits .or .u8 (32 * ((c : Nat) : Int)) ((t : Nat) : Int) = 32 * ((c : Nat) : Int) + ((t : Nat) : Int) := by decide +kernel
theorem or_first (c t : Int) (c0 : 0 ≤ c) (c1 : c ≤ 7) (t0 : 0 ≤ t) (t1 : t ≤ 31) : bits .or .u8 (32 * c) t = 32 * c + t := by
  have h := or_first_all ⟨c.toNat, by omega⟩ ⟨t.toNat, by omega⟩
  have e1 : ((c.toNat : Nat) : Int) = c := by omega
  have e2 : ((t.toNat : Nat) : Int) = t := by omega
  simpa only [e1, e2] using h

theorem or_32_all : ∀ c : Fin 4, bits .or .u8 (((c : Nat) : Int) * 64) 32 = ((c : Nat) : Int) * 64 + 32 := by decide +kernel
theorem and_i64_127 (x : Int) (h0 : 0 ≤ x) (h1 : x ≤ 4294967295) : bits .and .i64 x 127 = x % 128 := by
  obtain ⟨n, rfl⟩ := Int.eq_ofNat_of_zero_le h0
  show IntKind.i64.wrap ((BitVec.ofInt 64 (n : Int) &&& BitVec.ofInt 64 ((127 : Nat) : Int)).toNat : Int) = _
  rw [BitVec.toNat_and, i64_nat _ (by omega), i64_nat _ (by omega), show (127 : Nat) = 2 ^ 7 - 1 from rfl, Nat.and_two_pow_sub_one_eq_mod, IntKind.wrap_i64]
  omega

theorem sept_start {n c g : Nat} (h : n < 2 ^ c) (h1 : c ≤ 7 * g) : n / 128 ^ g = 0 := by
  apply Nat.div_eq_of_lt
  have : (128 : Nat) ^ g = 2 ^ (7 * g) := by rw [Nat.pow_mul]
  rw [this]
  exact Nat.lt_of_lt_of_le h (Nat.pow_le_pow_right (by decide) h1)
theorem sept_nz {n c g : Nat} (h : 2 ^ (c - 1) ≤ n) (h1 : 7 * g ≤ c + 6) (i : Nat) (hi : i < g) : n / 128 ^ i ≠ 0 := by
  have e : (128 : Nat) ^ i = 2 ^ (7 * i) := by rw [Nat.pow_mul]
  have h2 : 128 ^ i ≤ n := by rw [e]; exact Nat.le_trans (Nat.pow_le_pow_right (by decide) (by omega)) h
  have := Nat.div_pos h2 (Nat.pow_pos (by decide))
  omega

theorem or_sept (tag : Int) (h : 0 ≤ tag) (i : Nat) : bits .or .u8 128 (tag / 2 ^ (7 * i) % 256) = 128 + ((tag.toNat / 128 ^ i % 128 : Nat) : Int) := by
  obtain ⟨n, rfl⟩ := Int.eq_ofNat_of_zero_le h
  have e : (n : Int) / 2 ^ (7 * i) = ((n / 128 ^ i : Nat) : Int) := by
    rw [show (128 : Nat) ^ i = 2 ^ (7 * i) by rw [Nat.pow_mul]]
    simp
  rw [e, or_128 _ (by omega) (by omega)]
  simp only [Int.toNat_natCast]
  omega
theorem septHi_len : ∀ (c n : Nat), n ≤ c → (septHi n).length ≤ n
  | c, n, h => by
    by_cases h0 : n = 0
    · subst h0; rw [septHi_zero]; simp
    · rw [septHi_pos h0]
      match c, h with
      | 0, h => omega
      | c + 1, h =>
        have := septHi_len c (n / 128) (by omega)
        simp; omega

set_option maxHeartbeats 2000000 in
theorem appendIdent (h : Hd) (v : Value) (xs : List Int) (base : Nat) (w : World) (hok : HdOk h) (hown : Own .u8 5 base w v xs) (hbase : base ≤ w.heap.size) (hl : xs.length ≤ 1000000) :
    Calls Try.prog 24 #[v, h.val] w fun e w' => ∃ v', e = .returned v' ∧ Own .u8 5 base w' v' (xs ++ idB h) ∧ Below base w w' := by
  obtain ⟨cls, tag, cons, len, size⟩ := h
  obtain ⟨⟨c0, c1⟩, ⟨t0, t1⟩, _⟩ := hok
  unfold Hd.val
  dsimp only at c0 c1 t0 t1 ⊢
  have HO := hid hown
  clear hown
  obtain ⟨F, hF⟩ : ∃ F, F = cls * 64 + (if cons = true then 32 else 0) := ⟨_, rfl⟩
  have hFF : F = firstB ⟨cls, tag, cons, len, size⟩ := by rw [hF]; simp only [firstB]; omega
  have qc : cons = true → bits .or .u8 (cls * 64) 32 = F := by
    intro hc
    have h := or_32_all ⟨cls.toNat, by omega⟩
    have e1 : ((cls.toNat : Nat) : Int) = cls := by omega
    simp only [e1] at h
    rw [h, hF, if_pos hc]
  have qF : ∃ c, F = 32 * c ∧ 0 ≤ c ∧ c ≤ 7 := ⟨2 * cls + (if cons = true then 1 else 0), by rw [hF]; split <;> omega, by split <;> omega, by split <;> omega⟩
  have q0 : cons = false → cls * 64 = F := by intro hc; rw [hF, hc]; simp
  have HFF := hid hFF
  obtain ⟨F0, F1⟩ : 0 ≤ F ∧ F ≤ 224 := by obtain ⟨c, rfl, c0, c1⟩ := qF; omega
  clear hF hFF
  by_cases ht : tag < 31
  · have q2 : bits .or .u8 F tag = F + tag := by obtain ⟨c, rfl, c0, c1⟩ := qF; exact or_first c tag c0 c1 t0 (by omega)
    have hid' : idB ⟨cls, tag, cons, len, size⟩ = [F + tag] := by unfold idB; rw [if_pos ht, HFF.out]
    rw [hid']
    clear qF hid'
    cases cons
    all_goals
      first | have q3 := qc rfl | have q3 := q0 rfl
      clear qc q0
      go_enter Try.func24, Try.ntmps24
      go_wp2_with (at_builtin; refine wpList_app _ rfl _ _ 22 rfl .u8 base 5 1 Try.underlying22 Try.infoU8 _ xs [F + tag] rfl (HO.out.below (by (repeat (first | exact Below.refl _ _ | exact below_drewN _ | refine Below.drew ?_ | refine Below.alloc ?_ (by simp) _ | refine Below.setCell ?_ (by simp) _ | refine below_drewN' ?_ _)))) _ rfl (one_sl (by simp)) (by unfold maxLen; simp; omega) (by simp; omega) (by simp; omega) ?_; intro v' w' ho hg hb hn)
      go_ret
      refine ⟨_, rfl, ho, Below.trans ?_ hb⟩
      (repeat (first | exact Below.refl _ _ | exact below_drewN _ | refine Below.drew ?_ | refine Below.alloc ?_ (by simp; omega) _ | refine Below.alloc ?_ (by omega) _ | refine Below.setCell ?_ (by simp; omega) _ | refine below_drewN' ?_ _))
  · have q2 : bits .or .u8 F 31 = F + 31 := by obtain ⟨c, rfl, c0, c1⟩ := qF; exact or_first c 31 c0 c1 (by omega) (by omega)
    have hid' : idB ⟨cls, tag, cons, len, size⟩ = (F + 31) :: sept tag.toNat := by unfold idB; rw [if_neg ht, HFF.out]
    rw [hid']
    clear qF hid'
    obtain ⟨b1, b2, b3, b4⟩ := bitLen_fix tag.toNat (by omega)
    have b2 := b2 (by omega)
    have b3 := b3 (by omega)
    obtain ⟨c, hc⟩ : ∃ c, c = Lib.bitLen tag.toNat := ⟨_, rfl⟩
    rw [← hc] at b1 b2 b3 b4
    have HB1 := hid b1
    have HB2 := hid b2
    have HCC := hid hc
    clear b1 b2 hc
    have hc0 : 0 ≤ (c : Int) + 6 := by omega
    have q5 := and_i64_127 tag t0 (by omega)
    cases cons
    all_goals
      first | have q3 := qc rfl | have q3 := q0 rfl
      clear qc q0
      go_enter Try.func24, Try.ntmps24
      go_wp2_with (first
        | (at_builtin; refine wpList_app _ rfl _ _ 22 rfl .u8 base 5 1 Try.underlying22 Try.infoU8 _ xs [F + 31] rfl (HO.out.below (by (repeat (first | exact Below.refl _ _ | exact below_drewN _ | refine Below.drew ?_ | refine Below.alloc ?_ (by simp) _ | refine Below.setCell ?_ (by simp) _ | refine below_drewN' ?_ _)))) _ rfl (one_sl (by simp)) (by unfold maxLen; simp; omega) (by simp; omega) (by simp; omega) ?_; intro v1 w1 ho hg hb hn; have HX1 := hid (Box.grown ((Box.made w 24 [.int .i64 cls, .int .i64 tag, _, .int .i64 len, .int .i64 size]).alloc _) (HO.out.below (by (repeat (first | exact Below.refl _ _ | exact below_drewN _ | refine Below.drew ?_ | refine Below.alloc ?_ (by simp) _ | refine Below.setCell ?_ (by simp) _ | refine below_drewN' ?_ _)))) hg (by decide)); have hx1 := HX1.out.cell 1; have hz1 := hg.size; simp at hz1)
        | (go_at_call 28; refine (bitsLen _ _ (by omega) (by omega)).mono ?_; rintro e w' ⟨rfl, rfl⟩; rw [← HCC.out]))
      obtain ⟨g, hg1, hg2⟩ : ∃ g : Nat, 7 * g ≤ c + 6 ∧ c ≤ 7 * g := ⟨(c + 6) / 7, by omega, by omega⟩
      have HS0 := hid (sept_start (n := tag.toNat) (g := g) (by have := HB1.out; exact this) hg2)
      have HS1 := hid (sept_nz (n := tag.toNat) (g := g) HB2.out hg1)
      go_loopw [0, 7] (fun dv iv wr => ∃ i : Nat, iv = .int .i64 i ∧ i < g ∧ Own .u8 5 base wr dv (xs ++ [F + 31] ++ septHi (tag.toNat / 128 ^ (i + 1))) ∧ Hid (∃ bb, Box 24 [.int .i64 cls, .int .i64 tag, .bool bb, .int .i64 len, .int .i64 size] w.heap.size wr) ∧ Hid (Below base w wr) ∧ base ≤ wr.heap.size) (fun _ iv _ => (intOf iv).toNat)
      case atStart =>
        refine ⟨g - 1, by congr 1; omega, by omega, ?_, ⟨_, HX1.out⟩, Below.trans ?_ hb, by omega⟩
        · rw [show g - 1 + 1 = g by omega, HS0.out, septHi_zero, List.append_nil]; exact ho
        · (repeat (first | exact Below.refl _ _ | exact below_drewN _ | refine Below.drew ?_ | refine Below.alloc ?_ (by simp; omega) _ | refine Below.alloc ?_ (by omega) _ | refine Below.setCell ?_ (by simp; omega) _ | refine below_drewN' ?_ _))
      case round =>
        obtain ⟨i, rfl, hi, hown, hbox, hbel, hsz⟩ := hrel
        obtain ⟨bb, hbx⟩ := hbox.out
        have hx1 : wr.cell? ⟨w.heap.size, 1, none⟩ = some (.int .i64 tag) := hbx.cell 1
        have HBX := hid hbx
        have HOW := hid hown
        clear hbx hown
        have hlen : (septHi (tag.toNat / 128 ^ (i + 1))).length ≤ 268435455 := Nat.le_trans (septHi_len _ _ (Nat.le_refl _)) (Nat.le_trans (Nat.div_le_self _ _) (by omega))
        by_cases h0 : 0 < i
        · obtain ⟨y, q6, hy⟩ : ∃ y : Int, bits .or .u8 128 (tag / 2 ^ (7 * i) % 256) = y ∧ y = 128 + ((tag.toNat / 128 ^ i % 128 : Nat) : Int) := ⟨_, or_sept tag t0 i, rfl⟩
          have HY := hid hy
          clear hy
          go_wp2_with (at_builtin; refine wpList_app _ rfl _ _ 22 rfl .u8 base 5 1 Try.underlying22 Try.infoU8 _ (xs ++ [F + 31] ++ septHi (tag.toNat / 128 ^ (i + 1))) [y] rfl (HOW.out.below (by (repeat (first | exact Below.refl _ _ | exact below_drewN _ | refine Below.drew ?_ | refine Below.alloc ?_ (by simp) _ | refine Below.setCell ?_ (by simp) _ | refine below_drewN' ?_ _)))) _ rfl (one_sl (by simp)) (by unfold maxLen; simp; omega) (by simp; omega) (by simp; omega) ?_; intro v2 w2 ho2 hg2 hb2 hn2; have HX2 := hid (Box.grown (HBX.out.alloc _) (HOW.out.below (by (repeat (first | exact Below.refl _ _ | exact below_drewN _ | refine Below.drew ?_ | refine Below.alloc ?_ (by simp) _ | refine Below.setCell ?_ (by simp) _ | refine below_drewN' ?_ _)))) hg2 (by decide)))
          have hz2 := hg2.size
          simp at hz2
          go_roundw
          case rel =>
            refine ⟨i - 1, by go_num, by omega, ?_, ⟨_, HX2.out⟩, (hbel.out.trans ?_).trans hb2, by omega⟩
            · rw [show i - 1 + 1 = i by omega, septHi_pos (HS1.out i hi), ← HY.out, Nat.div_div_eq_div_mul, ← Nat.pow_succ, ← List.append_assoc]
              exact ho2
            · (repeat (first | exact Below.refl _ _ | exact below_drewN _ | refine Below.drew ?_ | refine Below.alloc ?_ (by simp; omega) _ | refine Below.alloc ?_ (by omega) _ | refine Below.setCell ?_ (by simp; omega) _ | refine below_drewN' ?_ _))
          case measure => simp [intOf]; omega
        · obtain rfl : i = 0 := by omega
          rw [Nat.zero_add, Nat.pow_one] at hlen
          have h1 := HOW.out
          rw [Nat.zero_add, Nat.pow_one] at h1
          have HOW1 := hid h1
          clear h1
          have q6 : tag % 128 % 256 = tag % 128 := by omega
          go_wp2_with (at_builtin; refine wpList_app _ rfl _ _ 22 rfl .u8 base 5 1 Try.underlying22 Try.infoU8 _ (xs ++ [F + 31] ++ septHi (tag.toNat / 128)) [tag % 128] rfl (HOW1.out.below (by (repeat (first | exact Below.refl _ _ | exact below_drewN _ | refine Below.drew ?_ | refine Below.alloc ?_ (by simp) _ | refine Below.setCell ?_ (by simp) _ | refine below_drewN' ?_ _)))) _ rfl (one_sl (by simp)) (by unfold maxLen; simp; omega) (by simp; omega) (by simp; omega) ?_; intro v2 w2 ho2 hg2 hb2 hn2)
          go_ret
          refine ⟨_, rfl, ?_, (hbel.out.trans ?_).trans hb2⟩
          · have e : tag % 128 = ((tag.toNat % 128 : Nat) : Int) := by omega
            rw [e] at ho2
            simpa [sept] using ho2
          · (repeat (first | exact Below.refl _ _ | exact below_drewN _ | refine Below.drew ?_ | refine Below.alloc ?_ (by simp; omega) _ | refine Below.alloc ?_ (by omega) _ | refine Below.setCell ?_ (by simp; omega) _ | refine below_drewN' ?_ _))

end Go.Proofs.Ytbdmnahkfmildaa
