/- Plain facts of headers: what is read is written to the same bytes, what is written is read, what is cut off is too short. -/
import Derived.Test.YtihbgpgiladfkaaDoorTlvSpec
namespace Go.Proofs.YtihbgpgiladfkaaDoor
open Go.RowKit

theorem septHi_step (t x : Nat) (h : t * 128 + x ≠ 0) (hx : x < 128) : septHi (t * 128 + x) = septHi t ++ [128 + (x : Int)] := by
  rw [septHi_pos h, show (t * 128 + x) / 128 = t by omega, show (t * 128 + x) % 128 = x by omega]
theorem be_step (t x : Nat) (h : t * 256 + x ≠ 0) (hx : x < 256) : be (t * 256 + x) = be t ++ [(x : Int)] := by
  rw [be_pos h, show (t * 256 + x) / 256 = t by omega, show (t * 256 + x) % 256 = x by omega]

theorem rdTag_only : ∀ (xs : List Int) (f : Bool) (t : Int), U8 xs → 0 ≤ t → (f = false → t ≠ 0) → (f = true → t = 0) → (rdTag f t xs).2.2 = 0 →
    septHi t.toNat ++ xs.take (rdTag f t xs).2.1.toNat = sept (rdTag f t xs).1.toNat ∧ 31 ≤ (rdTag f t xs).1
  | [], _, _, _, _, _, _, h => by simp [rdTag] at h
  | x :: r, f, t, hu, h0, hf, ht, h => by
    have hx := hu.head
    have hb := rdTag_bd r false (t * 128 + x % 128) hu.tail (by omega)
    rw [rdTag] at h ⊢
    split at h
    · simp at h
    · rename_i c1
      rw [if_neg c1]
      split at h
      · simp at h
      · rename_i c2
        rw [if_neg c2]
        split at h
        · rename_i c3
          rw [if_pos c3]
          split at h
          · rename_i c4
            rw [if_pos c4]
            have hnz : t * 128 + x % 128 ≠ 0 := by
              cases f with
              | true => have := ht rfl; simp at c1; omega
              | false => have := hf rfl; omega
            have ih := rdTag_only r false (t * 128 + x % 128) hu.tail (by omega) (fun _ => hnz) (by simp) c4
            refine ⟨?_, ih.2⟩
            rw [← ih.1]
            dsimp only
            have e : (t * 128 + x % 128).toNat = t.toNat * 128 + (x % 128).toNat := by omega
            rw [show ((rdTag false (t * 128 + x % 128) r).2.1 + 1).toNat = (rdTag false (t * 128 + x % 128) r).2.1.toNat + 1 by omega, List.take_succ_cons, e, septHi_step _ _ (by omega) (by omega)]
            rw [show (128 : Int) + (((x % 128).toNat : Nat) : Int) = x by omega]
            simp
          · rename_i c4; exact absurd h c4
        · rename_i c3
          rw [if_neg c3]
          split at h
          · simp at h
          · rename_i c4
            rw [if_neg c4]
            refine ⟨?_, by dsimp only; omega⟩
            dsimp only
            have e : (t * 128 + x).toNat = t.toNat * 128 + x.toNat := by omega
            rw [e, sept, show (t.toNat * 128 + x.toNat) / 128 = t.toNat by omega, show (t.toNat * 128 + x.toNat) % 128 = x.toNat by omega]
            rw [show ((x.toNat : Nat) : Int) = x by omega]
            simp

theorem lenGo_only : ∀ (n : Nat) (xs : List Int) (f : Bool) (t : Int), U8 xs → 0 ≤ t → (f = false → t ≠ 0) → (f = true → t = 0) → (lenGo f n t xs).2 = 0 →
    be t.toNat ++ xs.take n = be (lenGo f n t xs).1.toNat
  | 0, xs, f, t, _, _, _, _, h => by
    rw [lenGo] at h ⊢
    split at h
    · simp at h
    · rename_i c; rw [if_neg c]; simp
  | n + 1, [], f, t, _, _, _, _, h => by simp [lenGo] at h
  | n + 1, x :: r, f, t, hu, h0, hf, ht, h => by
    have hx := hu.head
    rw [lenGo] at h ⊢
    split at h
    · simp at h
    · rename_i c
      rw [if_neg c]
      have hnz : t * 256 + x ≠ 0 := by
        cases f with
        | true => have := ht rfl; simp at c; omega
        | false => have := hf rfl; omega
      have ih := lenGo_only n r false (t * 256 + x) hu.tail (by omega) (fun _ => hnz) (by simp) h
      rw [← ih, show (t * 256 + x).toNat = t.toNat * 256 + x.toNat by omega, be_step _ _ (by omega) (by omega), show ((x.toNat : Nat) : Int) = x by omega]
      simp

theorem rdLen_only (xs : List Int) (hu : U8 xs) (h : (rdLen xs).2.2 = 0) : xs.take (rdLen xs).2.1.toNat = lenB (rdLen xs).1 := by
  match xs, hu with
  | [], _ => simp [rdLen] at h
  | x :: r, hu =>
    have hx := hu.head
    rw [rdLen] at h ⊢
    split at h
    · rename_i c
      rw [if_pos c]
      simp [lenB, c]
    · rename_i c
      rw [if_neg c]
      split at h
      · simp at h
      · rename_i c2
        rw [if_neg c2]
        split at h
        · rename_i c3
          rw [if_pos c3]
          have hb := lenGo_bd _ r true 0 hu.tail (by omega) c3
          have ho := lenGo_only _ r true 0 hu.tail (by omega) (by simp) (by simp) c3
          dsimp only
          rw [lenB, if_neg (by omega), ← ho]
          simp only [Int.toNat_zero, be_zero, List.nil_append, List.length_take]
          rw [show (x - 127).toNat = (x - 128).toNat + 1 by omega, List.take_succ_cons]
          congr 1
          omega
        · rename_i c3; exact absurd h c3

theorem rdFin_only (c t : Int) (b : Bool) (n : Int) (r : List Int) (h : (rdFin c t b n r).2 = 0) : (rdLen r).2.2 = 0 ∧ (rdFin c t b n r).1 = ⟨c, t, b, (rdLen r).1, n + (rdLen r).2.1⟩ := by
  rw [rdFin] at h ⊢
  split at h
  · rename_i k; rw [if_pos k]; exact ⟨k, rfl⟩
  · rename_i k; exact absurd h k

theorem first_bits (x : Int) (_h0 : 0 ≤ x) (_h1 : x ≤ 255) : 64 * (x / 64) + (if decide (x / 32 % 2 = 1) = true then 32 else 0) + x % 32 = x := by
  split <;> rename_i h <;> simp at h <;> omega

/-- what is read is written to the same bytes -/
theorem rd_only (xs : List Int) (hu : U8 xs) (h : (rd xs).2 = 0) : hdB (rd xs).1 = xs.take (rd xs).1.size.toNat := by
  match xs, hu with
  | [], _ => simp [rd] at h
  | x :: r, hu =>
    have hx := hu.head
    have hf := first_bits x hx.1 hx.2
    rw [rd] at h ⊢
    split at h
    · rename_i c
      rw [if_pos c]
      split at h
      · rename_i c2
        rw [if_pos c2]
        have ht := rdTag_only r true 0 hu.tail (by omega) (by simp) (by simp) c2
        have hb := rdTag_bd r true 0 hu.tail (by omega)
        obtain ⟨k1, k2⟩ := rdFin_only _ _ _ _ _ h
        have hl := rdLen_only _ (hu.tail.drop _) k1
        have hb2 := rdLen_bd _ (hu.tail.drop (rdTag true 0 r).2.1.toNat)
        rw [k2]
        simp only [hdB, idB, firstB]
        rw [if_neg (by omega), ← hl, ← ht.1]
        simp only [Int.toNat_zero, septHi_zero, List.nil_append]
        rw [show (1 + (rdTag true 0 r).2.1 + (rdLen (r.drop (rdTag true 0 r).2.1.toNat)).2.1).toNat = (rdTag true 0 r).2.1.toNat + (rdLen (r.drop (rdTag true 0 r).2.1.toNat)).2.1.toNat + 1 by omega, List.take_succ_cons, List.take_add]
        rw [show 64 * (x / 64) + (if decide (x / 32 % 2 = 1) = true then 32 else 0) + 31 = x by omega]
        rfl
      · rename_i c2; exact absurd h c2
    · rename_i c
      rw [if_neg c]
      obtain ⟨k1, k2⟩ := rdFin_only _ _ _ _ _ h
      have hl := rdLen_only _ hu.tail k1
      have hb2 := rdLen_bd _ hu.tail
      rw [k2]
      simp only [hdB, idB, firstB]
      rw [if_pos (by omega), ← hl, hf, show (1 + (rdLen r).2.1).toNat = (rdLen r).2.1.toNat + 1 by omega, List.take_succ_cons]
      rfl

end Go.Proofs.YtihbgpgiladfkaaDoor
