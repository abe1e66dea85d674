/- Contracts of the document's own digits of a number and text of an identifier. -/
import Derived.Test.YtihbgpgiladfkaaDoorRefOid1
import Derived.Test.YtihbgpgiladfkaaDoorStrs
import Derived.Laws.BytesArg
import Derived.Laws.Concat
namespace Go.Proofs.YtihbgpgiladfkaaDoor
open Go.RowKit

theorem strOf_append (xs ys : List Int) : strOf xs ++ strOf ys = strOf (xs ++ ys) := by
  unfold strOf
  rw [b8_append, ByteArray.mk_append_mk]
/-- string(b) of a slice that the call has just laid. -/
theorem conv_one (W : World) (x : Int) : (convert 23 9 (.slice (some ⟨W.heap.size, 0, none⟩) 1 1)).run Tryd.prog (W.alloc (.cells #[.int .u8 x] 5)) = .ok (.string (strOf [x])) (W.alloc (.cells #[.int .u8 x] 5)) :=
  run_convert_bytes_arg (W.alloc (.cells #[.int .u8 x] 5)) 23 5 Tryd.underlying23 Tryd.underlying5 W.heap.size 0 1 1 [x] rfl (fun i hi => by
    obtain rfl : i = 0 := by omega
    rw [cell_of_row _ W.heap.size (0 + 0) #[.int .u8 x] 5 (0, 0) (heap_alloc_new W _)]
    rfl) 9 Tryd.underlying9

def decH (n : Nat) : List Int := if n = 0 then [] else decS n
theorem decH_zero : decH 0 = [] := rfl
theorem decS_cut (n : Nat) : decS n = decH (n / 10) ++ [48 + ((n % 10 : Nat) : Int)] := by
  unfold decH
  by_cases h : n < 10
  · rw [decS_small h, if_pos (by omega), List.nil_append]
    congr 2
    omega
  · rw [decS_on h, if_neg (by omega)]
theorem decH_pos {n : Nat} (h : n ≠ 0) : decH n = decH (n / 10) ++ [48 + ((n % 10 : Nat) : Int)] := by
  rw [← decS_cut]
  unfold decH
  rw [if_neg h]

theorem refDigits (n : Int) (w : World) (n0 : 0 ≤ n) (n1 : n ≤ maxN) :
    Calls Tryd.prog 30 #[.int .i64 n] w fun e w' => e = .returned (.string (strOf (decS n.toNat))) ∧ Below w.heap.size w w' := by
  have hd : (decS n.toNat).length ≤ 19 := by
    unfold maxN at n1
    exact decS_len 18 n.toNat (by omega)
  unfold maxN at n1
  have hconv := conv_one
  have e0 : (48 + n % 10) % 256 = 48 + n % 10 := by omega
  go_enter Tryd.func30, Tryd.ntmps30
  go_wp2_with (fail)
  have HN0 := hid n0
  go_loopw [0, 3] (fun nv sv wr => ∃ (m : Nat) (ds : List Int), nv = .int .i64 m ∧ m ≤ 9223372036854775807 ∧ sv = .string (strOf ds) ∧ ds.length ≤ 19 ∧ Hid (decH m ++ ds = decS n.toNat) ∧ Hid (Below w.heap.size w wr)) (fun nv _ _ => (intOf nv).toNat)
  case atStart =>
    refine ⟨n.toNat / 10, [48 + n % 10], by congr 1; omega, by omega, rfl, by simp, ?_, by (repeat (first | exact Below.refl _ _ | exact below_drewN _ | refine Below.drew ?_ | refine Below.alloc ?_ (by simp) _ | refine Below.setCell ?_ (by simp) _ | refine below_drewN' ?_ _))⟩
    show _ = _
    rw [decS_cut n.toNat]
    congr 2
    omega
  case round =>
    obtain ⟨m, ds, rfl, hm, rfl, hl, heq, hbel⟩ := hrel
    rcases Nat.eq_zero_or_pos m with h0 | h0
    · subst h0
      have hfin := hid heq.out
      go_wp2_with (fail)
      go_ret
      have := hfin.out
      rw [decH_zero, List.nil_append] at this
      rw [this]
      exact ⟨rfl, hbel.out⟩
    · obtain ⟨d, hdd⟩ : ∃ d : Int, d = 48 + ((m % 10 : Nat) : Int) := ⟨_, rfl⟩
      obtain ⟨q, hqq⟩ : ∃ q : Nat, q = m / 10 := ⟨_, rfl⟩
      have e1 : 48 + (m : Int) % 10 = d := by omega
      have e2 : d % 256 = d := by omega
      have e3 : (m : Int) / 10 = q := by omega
      have hs1 : (strOf ds).size ≤ 19 := by rw [strOf_len]; exact hl
      have hs2 : (strOf [d]).size = 1 := strOf_len [d]
      have hp : (0 : Int) < (m : Int) := by omega
      have heq2 := heq.out
      rw [decH_pos (by omega), ← hdd, ← hqq] at heq2
      have hlen : ds.length + 1 ≤ 19 := by
        have := congrArg List.length heq2
        simp at this
        omega
      have HE := hid heq2
      have HQ := hid hqq
      have hz := hbel.out.size
      clear heq2 hdd hqq hl
      go_wp2_with (fail)
      go_roundw
      case rel => exact ⟨q, [d] ++ ds, rfl, by have := HQ.out; omega, (by rw [strOf_append]), (by simp; omega), (by have := HE.out; rw [List.append_assoc] at this; exact this), hbel.out.trans (by (repeat (first | exact Below.refl _ _ | exact below_drewN _ | refine Below.drew ?_ | refine Below.alloc ?_ (by simp; omega) _ | refine Below.alloc ?_ (by omega) _ | refine Below.setCell ?_ (by simp; omega) _ | refine below_drewN' ?_ _)))⟩
      case measure =>
        have := HQ.out
        simp [intOf]
        omega

theorem textS_snoc : ∀ (l : List Int) (x : Int), l ≠ [] → textS (l ++ [x]) = textS l ++ 46 :: decS x.toNat
  | [], _, h => absurd rfl h
  | [a], x, _ => rfl
  | a :: b :: r, x, _ => by
    have := textS_snoc (b :: r) x (by simp)
    show textS (a :: b :: (r ++ [x])) = _
    rw [textS, textS]
    rw [show b :: (r ++ [x]) = (b :: r) ++ [x] from rfl, this]
    simp
theorem str_point (T D : List Int) : strOf T ++ ⟨#[46]⟩ ++ strOf D = strOf (T ++ 46 :: D) := by
  have : (⟨#[46]⟩ : ByteArray) = strOf [46] := rfl
  rw [this, strOf_append, strOf_append]
  simp
theorem textL : ∀ (xs : List Int), (∀ x ∈ xs, 0 ≤ x ∧ x ≤ maxN) → (textS xs).length ≤ 20 * xs.length
  | [], _ => by simp [textS]
  | [x], h => by
    have := (h x (List.mem_cons_self ..)).2
    unfold maxN at this
    have := decS_len 18 x.toNat (by omega)
    simp [textS]; omega
  | x :: y :: r, h => by
    have := (h x (List.mem_cons_self ..)).2
    unfold maxN at this
    have := decS_len 18 x.toNat (by omega)
    have h2 := textL (y :: r) fun z hz => h z (List.mem_cons_of_mem _ hz)
    rw [textS]
    simp at h2 ⊢; omega

set_option maxHeartbeats 1000000 in
theorem refOidText (v : Value) (xs : List Int) (w : World) (h : Sl .i64 w v xs) (hne : xs ≠ []) (hall : ∀ x ∈ xs, 0 ≤ x ∧ x ≤ maxN) (hl40 : xs.length ≤ 40) :
    Calls Tryd.prog 20 #[v] w fun e w' => e = .returned (.string (strOf (textS xs))) ∧ Below w.heap.size w w' := by
  obtain ⟨ad, cap, rfl, q, qm, h⟩ := h
  have hpos : 0 < xs.length := List.length_pos_iff.2 hne
  rcases h with rfl | ⟨bb, o, rfl, hbb, c⟩
  · omega
  obtain ⟨len, hlen⟩ : ∃ len, len = xs.length := ⟨_, rfl⟩
  rw [← hlen] at q hpos hbb c hl40 ⊢
  have hbb' := hbb hpos
  have d0 := c 0 hpos
  simp only [Nat.add_zero] at d0
  obtain ⟨x0, hx0⟩ : ∃ x, x = xs.getD 0 0 := ⟨_, rfl⟩
  rw [← hx0] at d0
  have hm0 : x0 ∈ xs := by rw [hx0, List.getD_eq_getElem?_getD, List.getElem?_eq_getElem (by omega)]; exact List.getElem_mem (by omega)
  obtain ⟨p0, p1⟩ := hall x0 hm0
  have ht1 : xs.take 1 = [x0] := by
    match xs, hne with
    | a :: r, _ => rw [hx0]; rfl
  have HT1 := hid ht1
  have HA := hid hall
  have HL := hid hlen
  have C := hid c
  clear hne hx0 hm0 ht1 hall hlen c hbb q
  have g3 : (0 : Int) < (len : Int) := by omega
  go_enter Tryd.func20, Tryd.ntmps20
  go_wp2_with (first
    | (go_at_call 30; refine (refDigits x0 w p0 p1).mono ?_; rintro e w2 ⟨rfl, hb2⟩; have HB2 := hid hb2; clear hb2))
  go_loopw [3, 4] (fun sv iv wr => ∃ (k : Nat), 1 ≤ k ∧ k ≤ len ∧ iv = .int .i64 k ∧ sv = .string (strOf (textS (xs.take k))) ∧ Hid (Below w.heap.size w wr)) (fun _ iv _ => len - (intOf iv).toNat)
  case atStart => exact ⟨1, by omega, by omega, rfl, (by rw [HT1.out]; rfl), HB2.out⟩
  case round =>
    obtain ⟨k, hk1, hk, rfl, rfl, hbel⟩ := hrel
    by_cases hlt : k < len
    · obtain ⟨x, hx⟩ : ∃ x, x = xs.getD k 0 := ⟨_, rfl⟩
      have dk := (hbel.out.cell (p := ⟨bb, o + k, none⟩) hbb').trans (C.out k hlt)
      rw [← hx] at dk
      have hkx : k < xs.length := by rw [← HL.out]; exact hlt
      have hxm : x ∈ xs := by rw [hx, List.getD_eq_getElem?_getD, List.getElem?_eq_getElem hkx]; exact List.getElem_mem hkx
      have htk : xs.take (k + 1) = xs.take k ++ [x] := by rw [List.take_add_one, hx, List.getD_eq_getElem?_getD, List.getElem?_eq_getElem hkx]; rfl
      have hne : xs.take k ≠ [] := by
        intro h
        have := congrArg List.length h
        rw [List.length_take, List.length_nil] at this
        omega
      obtain ⟨y0, y1⟩ := HA.out x hxm
      have htl := textL (xs.take k) (fun y hy => HA.out y (List.mem_of_mem_take hy))
      simp only [List.length_take] at htl
      obtain ⟨T, hT⟩ : ∃ T, T = textS (xs.take k) := ⟨_, rfl⟩
      obtain ⟨D, hD⟩ : ∃ D, D = decS x.toNat := ⟨_, rfl⟩
      have hnext : textS (xs.take (k + 1)) = T ++ 46 :: D := by rw [htk, textS_snoc _ _ hne, hT, hD]
      have hs1 : (strOf T).size ≤ 800 := by rw [strOf_len, hT]; omega
      have hs2 : (strOf D).size ≤ 19 := by
        unfold maxN at y1
        rw [strOf_len, hD]
        exact decS_len 18 x.toNat (by omega)
      rw [← hT]
      have HNX := hid hnext
      have HD := hid hD
      clear hx hkx hxm htk hne htl hT hD hnext
      go_wp2_with (first
        | (go_at_call 30; refine (refDigits x wr y0 y1).mono ?_; rw [← HD.out]; rintro e w3 ⟨rfl, hb3⟩; have HB3 := hid hb3; clear hb3))
      go_roundw
      case rel => exact ⟨k + 1, by omega, by omega, by go_num, (by rw [HNX.out, ← str_point]), hbel.out.trans (HB3.out.mono hbel.out.size)⟩
      case measure => simp [intOf]; omega
    · obtain rfl : k = len := by omega
      go_wp2_with (fail)
      go_ret
      rw [HL.out, List.take_length]
      exact ⟨rfl, hbel.out⟩
end Go.Proofs.YtihbgpgiladfkaaDoor
