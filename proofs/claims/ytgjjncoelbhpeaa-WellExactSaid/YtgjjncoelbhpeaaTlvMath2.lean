/- Plain facts of headers, the other way: what is written is read, and what is cut off is too short. -/
import Derived.Test.YtgjjncoelbhpeaaTlvMath
namespace Go.Proofs.Ytgjjncoelbhpeaa
open Go.RowKit

def lift3' (k : Nat) (r : Int × Int × Int) : Int × Int × Int := if r.2.2 = 0 then (r.1, r.2.1 + k, 0) else (0, 0, r.2.2)
theorem lift3'_lift3' (a b : Nat) (r : Int × Int × Int) : lift3' a (lift3' b r) = lift3' (a + b) r := by
  unfold lift3'
  split
  · simp; omega
  · simp

theorem rdTag_more (f : Bool) (t : Int) (x : Int) (r : List Int) (h1 : ¬ (f = true ∧ x = 128)) (h2 : t * 128 + x % 128 ≤ 268435455) (h3 : 128 ≤ x) : rdTag f t (x :: r) = lift3' 1 (rdTag false (t * 128 + x % 128) r) := by
  rw [rdTag, if_neg h1, if_neg (by omega), if_pos h3]
  simp [lift3']

theorem rdTag_hi : ∀ (c n : Nat) (zs : List Int), n ≤ c → n ≠ 0 → n ≤ 268435455 → rdTag true 0 (septHi n ++ zs) = lift3' (septHi n).length (rdTag false n zs)
  | 0, n, _, h, h0, _ => by omega
  | c + 1, n, zs, h, h0, hb => by
    rw [septHi_pos h0]
    by_cases hd : n / 128 = 0
    · rw [hd, septHi_zero]
      simp only [List.nil_append, List.cons_append, List.length_cons, List.length_nil]
      rw [rdTag_more _ _ _ _ (by simp; omega) (by omega) (by omega)]
      congr 2
      omega
    · have ih := rdTag_hi c (n / 128) ([128 + ((n % 128 : Nat) : Int)] ++ zs) (by omega) hd (by omega)
      rw [List.append_assoc, ih]
      simp only [List.cons_append, List.nil_append]
      rw [rdTag_more _ _ _ _ (by simp) (by omega) (by omega), lift3'_lift3', List.length_append]
      congr 2
      omega

theorem rdTag_sept (n : Nat) (zs : List Int) (h31 : 31 ≤ n) (hb : n ≤ 268435455) : rdTag true 0 (sept n ++ zs) = ((n : Int), ((sept n).length : Int), 0) := by
  rw [sept]
  by_cases hd : n / 128 = 0
  · rw [hd, septHi_zero]
    simp only [List.nil_append, List.cons_append, List.length_cons, List.length_nil]
    rw [rdTag, if_neg (by simp; omega), if_neg (by omega), if_neg (by omega), if_neg (by omega)]
    simp; omega
  · rw [List.append_assoc, rdTag_hi (n / 128) (n / 128) _ (Nat.le_refl _) hd (by omega)]
    simp only [List.cons_append, List.nil_append]
    rw [rdTag, if_neg (by simp), if_neg (by omega), if_neg (by omega), if_neg (by omega)]
    simp [lift3']
    omega

theorem lenGo_hi : ∀ (c m j : Nat) (zs : List Int), m ≤ c → m ≠ 0 → lenGo true ((be m).length + j) 0 (be m ++ zs) = lenGo false j m zs
  | 0, m, _, _, h, h0 => by omega
  | c + 1, m, j, zs, h, h0 => by
    rw [be_pos h0]
    by_cases hd : m / 256 = 0
    · rw [hd, be_zero]
      simp only [List.nil_append, List.cons_append, List.length_cons, List.length_nil]
      rw [show 0 + 1 + j = j + 1 by omega, lenGo, if_neg (by simp; omega)]
      congr 1
      omega
    · have ih := lenGo_hi c (m / 256) (1 + j) ([((m % 256 : Nat) : Int)] ++ zs) (by omega) hd
      rw [List.append_assoc, List.length_append]
      simp only [List.length_cons, List.length_nil]
      rw [show (be (m / 256)).length + (0 + 1) + j = (be (m / 256)).length + (1 + j) by omega, ih, show 1 + j = j + 1 by omega]
      simp only [List.cons_append, List.nil_append]
      rw [lenGo, if_neg (by simp)]
      congr 1
      omega

theorem rdLen_lenB (n : Int) (zs : List Int) (h0 : 0 ≤ n) (h1 : n ≤ 2147483647) : rdLen (lenB n ++ zs) = (n, ((lenB n).length : Int), 0) := by
  unfold lenB
  split
  · rename_i c
    simp [rdLen, c]
  · rename_i c
    have hl := be_len 4 n.toNat (by omega)
    have hp : 1 ≤ (be n.toNat).length := by rw [be_pos (by omega)]; simp
    have hg := lenGo_hi n.toNat n.toNat 0 zs (Nat.le_refl _) (by omega)
    rw [lenGo, if_neg (by omega)] at hg
    simp only [List.cons_append, List.length_cons]
    rw [rdLen, if_neg (by omega), if_neg (by omega), show (128 + ((be n.toNat).length : Int) - 128).toNat = (be n.toNat).length + 0 by omega, hg]
    simp
    omega

/-- what is written is read -/
theorem rd_back (h : Hd) (zs : List Int) (hok : HdOk h) : rd (hdB h ++ zs) = (⟨h.cls, h.tag, h.cons, h.len, ((hdB h).length : Int)⟩, 0) := by
  obtain ⟨cls, tag, cons, len, size⟩ := h
  obtain ⟨⟨c0, c1⟩, ⟨t0, t1⟩, ⟨l0, l1⟩⟩ := hok
  dsimp only at c0 c1 t0 t1 l0 l1
  have hL := rdLen_lenB len zs l0 l1
  simp only [hdB, idB, firstB]
  by_cases h31 : tag < 31
  · rw [if_pos h31]
    have e1 : (64 * cls + (if cons = true then 32 else 0) + tag) % 32 = tag := by split <;> omega
    have e2 : (64 * cls + (if cons = true then 32 else 0) + tag) / 64 = cls := by split <;> omega
    have e3 : decide ((64 * cls + (if cons = true then 32 else 0) + tag) / 32 % 2 = 1) = cons := by
      cases cons <;> simp <;> omega
    simp only [List.cons_append, List.nil_append]
    rw [rd, e1, if_neg (by omega), rdFin, hL, e2, e3]
    simp
    omega
  · rw [if_neg h31]
    have e1 : (64 * cls + (if cons = true then 32 else 0) + 31) % 32 = 31 := by split <;> omega
    have e2 : (64 * cls + (if cons = true then 32 else 0) + 31) / 64 = cls := by split <;> omega
    have e3 : decide ((64 * cls + (if cons = true then 32 else 0) + 31) / 32 % 2 = 1) = cons := by
      cases cons <;> simp <;> omega
    have hT := rdTag_sept tag.toNat (lenB len ++ zs) (by omega) (by omega)
    simp only [List.cons_append, List.append_assoc]
    rw [rd, e1, if_pos rfl, hT]
    dsimp only
    rw [if_pos rfl, rdFin, Int.toNat_natCast, List.drop_left, hL, e2, e3]
    simp
    omega

theorem rdTag_cut : ∀ (xs ys : List Int) (f : Bool) (t : Int), U8 xs → U8 ys → 0 ≤ t → (rdTag f t (xs ++ ys)).2.2 = 0 → (xs.length : Int) < (rdTag f t (xs ++ ys)).2.1 → (rdTag f t xs).2.2 = 2
  | [], _, _, _, _, _, _, _, _ => by simp [rdTag]
  | x :: r, ys, f, t, hu, hy, ht, h, hl => by
    have hx := hu.head
    have hlc : (((x :: r).length : Nat) : Int) = (r.length : Int) + 1 := by simp
    rw [List.cons_append, rdTag] at h hl
    rw [rdTag]
    split at h
    · simp at h
    · rename_i c1
      rw [if_neg c1] at hl ⊢
      split at h
      · simp at h
      · rename_i c2
        rw [if_neg c2] at hl ⊢
        split at h
        · rename_i c3
          rw [if_pos c3] at hl ⊢
          split at h
          · rename_i c4
            rw [if_pos c4] at hl
            have ih := rdTag_cut r ys false (t * 128 + x % 128) hu.tail hy (by omega) c4 (by simp only [hlc] at hl; omega)
            rw [ih]
            simp
          · rename_i c4; exact absurd h c4
        · rename_i c3
          rw [if_neg c3] at hl
          split at h
          · simp at h
          · rename_i c4
            rw [if_neg c4] at hl
            simp only [hlc] at hl
            omega

theorem rdTag_same : ∀ (xs ys : List Int) (f : Bool) (t : Int), U8 xs → U8 ys → 0 ≤ t → (rdTag f t (xs ++ ys)).2.2 = 0 → (rdTag f t (xs ++ ys)).2.1 ≤ (xs.length : Int) → rdTag f t xs = rdTag f t (xs ++ ys)
  | [], ys, f, t, _, hy, ht, h, hl => by
    cases ys with
    | nil => rfl
    | cons y s =>
      have hb := rdTag_bd s false (t * 128 + y % 128) hy.tail (by have := hy.head; omega)
      rw [List.nil_append, rdTag] at h hl
      split at h
      · simp at h
      · rename_i c1
        rw [if_neg c1] at hl
        split at h
        · simp at h
        · rename_i c2
          rw [if_neg c2] at hl
          split at h
          · rename_i c3
            rw [if_pos c3] at hl
            split at h
            · rename_i c4
              rw [if_pos c4] at hl
              simp only [List.length_nil] at hl
              omega
            · rename_i c4; exact absurd h c4
          · rename_i c3
            rw [if_neg c3] at hl
            split at h
            · simp at h
            · rename_i c4
              rw [if_neg c4] at hl
              simp at hl
  | x :: r, ys, f, t, hu, hy, ht, h, hl => by
    have hx := hu.head
    have hlc : (((x :: r).length : Nat) : Int) = (r.length : Int) + 1 := by simp
    rw [List.cons_append, rdTag] at h hl ⊢
    rw [rdTag]
    split at h
    · simp at h
    · rename_i c1
      rw [if_neg c1] at hl
      rw [if_neg c1, if_neg c1]
      split at h
      · simp at h
      · rename_i c2
        rw [if_neg c2] at hl
        rw [if_neg c2, if_neg c2]
        split at h
        · rename_i c3
          rw [if_pos c3] at hl
          rw [if_pos c3, if_pos c3]
          split at h
          · rename_i c4
            rw [if_pos c4] at hl
            have ih := rdTag_same r ys false (t * 128 + x % 128) hu.tail hy (by omega) c4 (by simp only [hlc] at hl; omega)
            rw [ih]
          · rename_i c4; exact absurd h c4
        · rename_i c3
          rw [if_neg c3, if_neg c3]

theorem lenGo_cut : ∀ (n : Nat) (xs ys : List Int) (f : Bool) (t : Int), (lenGo f n t (xs ++ ys)).2 = 0 → xs.length < n → (lenGo f n t xs).2 = 2
  | 0, _, _, _, _, _, hl => by omega
  | n + 1, [], _, _, _, _, _ => by simp [lenGo]
  | n + 1, x :: r, ys, f, t, h, hl => by
    rw [List.cons_append, lenGo] at h
    rw [lenGo]
    split at h
    · simp at h
    · rename_i c
      rw [if_neg c]
      exact lenGo_cut n r ys false (t * 256 + x) h (by simpa using hl)

theorem rdLen_cut (xs ys : List Int) (hu : U8 xs) (h : (rdLen (xs ++ ys)).2.2 = 0) (hl : (xs.length : Int) < (rdLen (xs ++ ys)).2.1) : (rdLen xs).2.2 = 2 := by
  match xs, hu with
  | [], _ => simp [rdLen]
  | x :: r, hu =>
    have hx := hu.head
    have hlc : (((x :: r).length : Nat) : Int) = (r.length : Int) + 1 := by simp
    rw [List.cons_append, rdLen] at h hl
    rw [rdLen]
    split at h
    · rename_i c
      rw [if_pos c] at hl
      simp only [hlc] at hl
      omega
    · rename_i c
      rw [if_neg c] at hl ⊢
      split at h
      · simp at h
      · rename_i c2
        rw [if_neg c2] at hl ⊢
        split at h
        · rename_i c3
          rw [if_pos c3] at hl
          simp only [hlc] at hl
          have := lenGo_cut (x - 128).toNat r ys true 0 c3 (by omega)
          rw [this]
          simp
        · rename_i c3; exact absurd h c3

/-- what is cut off is too short -/
theorem rd_cut (xs ys : List Int) (hu : U8 xs) (hy : U8 ys) (h : (rd (xs ++ ys)).2 = 0) (hl : (xs.length : Int) < (rd (xs ++ ys)).1.size) : rd xs = (Hd.zero, 2) := by
  match xs, hu with
  | [], _ => simp [rd]
  | x :: r, hu =>
    have hx := hu.head
    have hlc : (((x :: r).length : Nat) : Int) = (r.length : Int) + 1 := by simp
    rw [List.cons_append, rd] at h hl
    rw [rd]
    split at h
    · rename_i c
      rw [if_pos c] at hl ⊢
      split at h
      · rename_i c2
        rw [if_pos c2] at hl
        obtain ⟨k1, k2⟩ := rdFin_only _ _ _ _ _ h
        rw [k2] at hl
        simp only [hlc] at hl
        rcases Int.lt_or_le (r.length : Int) (rdTag true 0 (r ++ ys)).2.1 with hlt | hge
        · rw [rdTag_cut r ys true 0 hu.tail hy (by omega) c2 hlt]
          simp
        · have hs := rdTag_same r ys true 0 hu.tail hy (by omega) c2 hge
          have hb := rdTag_bd (r ++ ys) true 0 (hu.tail.append hy) (by omega)
          rw [← hs] at c2 hb k1 hl
          have ed : (r ++ ys).drop (rdTag true 0 r).2.1.toNat = r.drop (rdTag true 0 r).2.1.toNat ++ ys := by
            rw [List.drop_append_of_le_length (by rw [← hs] at hge; omega)]
          rw [ed] at k1 hl
          rw [← hs] at hge
          have := rdLen_cut _ ys (hu.tail.drop _) k1 (by rw [List.length_drop]; omega)
          rw [if_pos c2, rdFin, this]
          simp
      · rename_i c2; exact absurd h c2
    · rename_i c
      rw [if_neg c] at hl ⊢
      obtain ⟨k1, k2⟩ := rdFin_only _ _ _ _ _ h
      rw [k2] at hl
      simp only [hlc] at hl
      have := rdLen_cut r ys hu.tail k1 (by omega)
      rw [rdFin, this]
      simp

theorem u8_sept (n : Nat) : U8 (sept n) := by
  have hi : ∀ c n, n ≤ c → U8 (septHi n) := by
    intro c
    induction c with
    | zero => intro n h; obtain rfl : n = 0 := by omega
              rw [septHi_zero]; exact U8.nil
    | succ c ih =>
      intro n h
      by_cases h0 : n = 0
      · subst h0; rw [septHi_zero]; exact U8.nil
      · rw [septHi_pos h0]
        exact (ih _ (by omega)).append (U8.cons (by omega) U8.nil)
  exact (hi _ _ (Nat.le_refl _)).append (U8.cons (by omega) U8.nil)
theorem u8_be : ∀ (c n : Nat), n ≤ c → U8 (be n)
  | 0, n, h => by obtain rfl : n = 0 := by omega
                  rw [be_zero]; exact U8.nil
  | c + 1, n, h => by
    by_cases h0 : n = 0
    · subst h0; rw [be_zero]; exact U8.nil
    · rw [be_pos h0]
      exact (u8_be c _ (by omega)).append (U8.cons (by omega) U8.nil)
theorem u8_hdB {h : Hd} (hok : HdOk h) : U8 (hdB h) := by
  obtain ⟨⟨c0, c1⟩, ⟨t0, t1⟩, ⟨l0, l1⟩⟩ := hok
  have hf : 0 ≤ firstB h ∧ firstB h ≤ 224 := by unfold firstB; split <;> omega
  refine U8.append ?_ ?_
  · unfold idB
    split
    · exact U8.cons (by omega) U8.nil
    · exact U8.cons (by omega) (u8_sept _)
  · unfold lenB
    split
    · exact U8.cons (by omega) U8.nil
    · have := be_len 4 h.len.toNat (by omega)
      exact U8.cons (by omega) (u8_be _ _ (Nat.le_refl _))

end Go.Proofs.Ytgjjncoelbhpeaa
