/- Several texts in one: TlvSpec. -/
import Derived.Test.YtildhebaikeknaaPk1
/-! TlvSpec -/
namespace Go.Proofs.Ytildhebaikeknaa
open Go.RowKit

structure Hd where
  cls : Int
  tag : Int
  cons : Bool
  len : Int
  size : Int

def Hd.val (h : Hd) : Value := .agg #[.int .i64 h.cls, .int .i64 h.tag, .bool h.cons, .int .i64 h.len, .int .i64 h.size]
def Hd.zero : Hd := ⟨0, 0, false, 0, 0⟩

/-- a long tag: first byte?, what has come, the rest: the tag, its bytes, the error -/
def rdTag : Bool → Int → List Int → Int × Int × Int
  | _, _, [] => (0, 0, 2)
  | first, t, x :: r =>
    if first = true ∧ x = 128 then (0, 0, 3)
    else if t * 128 + x % 128 > 268435455 then (0, 0, 3)
    else if x ≥ 128 then
      (if (rdTag false (t * 128 + x % 128) r).2.2 = 0 then ((rdTag false (t * 128 + x % 128) r).1, (rdTag false (t * 128 + x % 128) r).2.1 + 1, 0) else (0, 0, (rdTag false (t * 128 + x % 128) r).2.2))
    else if t * 128 + x < 31 then (0, 0, 3) else (t * 128 + x, 1, 0)

/-- the bytes of a length: first?, how many, what has come, the rest: the length, the error -/
def lenGo : Bool → Nat → Int → List Int → Int × Int
  | _, 0, t, _ => if t > 2147483647 ∨ t < 128 then (0, 4) else (t, 0)
  | _, _ + 1, _, [] => (0, 2)
  | first, n + 1, t, x :: r => if first = true ∧ x = 0 then (0, 4) else lenGo false n (t * 256 + x) r

/-- a length: its value, its bytes, the error -/
def rdLen : List Int → Int × Int × Int
  | [] => (0, 0, 2)
  | x :: r =>
    if x < 128 then (x, 1, 0)
    else if x = 128 ∨ x > 132 then (0, 0, 4)
    else if (lenGo true (x - 128).toNat 0 r).2 = 0 then ((lenGo true (x - 128).toNat 0 r).1, x - 127, 0) else (0, 0, (lenGo true (x - 128).toNat 0 r).2)

/-- what stands behind the tag, whose number, form and bytes are known -/
def rdFin (cls tag : Int) (cons : Bool) (n : Int) (r : List Int) : Hd × Int :=
  if (rdLen r).2.2 = 0 then (⟨cls, tag, cons, (rdLen r).1, n + (rdLen r).2.1⟩, 0) else (Hd.zero, (rdLen r).2.2)

/-- a header -/
def rd : List Int → Hd × Int
  | [] => (Hd.zero, 2)
  | x :: r =>
    if x % 32 = 31 then
      (if (rdTag true 0 r).2.2 = 0 then rdFin (x / 64) (rdTag true 0 r).1 (decide (x / 32 % 2 = 1)) (1 + (rdTag true 0 r).2.1) (r.drop (rdTag true 0 r).2.1.toNat) else (Hd.zero, (rdTag true 0 r).2.2))
    else rdFin (x / 64) (x % 32) (decide (x / 32 % 2 = 1)) 1 r

theorem rdTag_bd : ∀ (xs : List Int) (f : Bool) (t : Int), U8 xs → 0 ≤ t → 0 ≤ (rdTag f t xs).2.1 ∧ (rdTag f t xs).2.1 ≤ xs.length ∧ 0 ≤ (rdTag f t xs).1 ∧ (rdTag f t xs).1 ≤ 268435455
  | [], _, _, _, _ => by simp [rdTag]
  | x :: r, f, t, hu, ht => by
    have hx := hu.head
    have ih := rdTag_bd r false (t * 128 + x % 128) hu.tail (by omega)
    have hl : (((x :: r).length : Nat) : Int) = (r.length : Int) + 1 := by simp
    rw [rdTag]
    repeat' split
    all_goals simp only [hl]
    all_goals omega

theorem lenGo_bd : ∀ (n : Nat) (xs : List Int) (f : Bool) (t : Int), U8 xs → 0 ≤ t → (lenGo f n t xs).2 = 0 → n ≤ xs.length ∧ 128 ≤ (lenGo f n t xs).1 ∧ (lenGo f n t xs).1 ≤ 2147483647
  | 0, xs, f, t, _, _, h => by
    rw [lenGo] at h ⊢
    split at h
    · simp at h
    · rename_i hc; rw [if_neg hc]; dsimp only; omega
  | n + 1, [], f, t, _, _, h => by simp [lenGo] at h
  | n + 1, x :: r, f, t, hu, ht, h => by
    have hx := hu.head
    rw [lenGo] at h ⊢
    split at h
    · simp at h
    · rename_i hc
      rw [if_neg hc]
      have ih := lenGo_bd n r false (t * 256 + x) hu.tail (by omega) h
      simp only [List.length_cons]
      omega

theorem rdLen_bd (xs : List Int) (hu : U8 xs) : 0 ≤ (rdLen xs).2.1 ∧ (rdLen xs).2.1 ≤ 5 ∧ (rdLen xs).2.1 ≤ xs.length ∧ 0 ≤ (rdLen xs).1 ∧ (rdLen xs).1 ≤ 2147483647 ∧ ((rdLen xs).2.2 = 0 → 1 ≤ (rdLen xs).2.1) := by
  match xs, hu with
  | [], _ => simp [rdLen]
  | x :: r, hu =>
    have hx := hu.head
    have hl : (((x :: r).length : Nat) : Int) = (r.length : Int) + 1 := by simp
    rw [rdLen]
    split
    · simp only [hl]; omega
    · split
      · simp only [hl]; omega
      · split
        · rename_i h
          have := lenGo_bd _ r true 0 hu.tail (by omega) h
          simp only [hl]
          omega
        · rename_i h; simp only [hl]; omega

theorem drop_one_add (x : Int) (r : List Int) (n : Int) (h : 0 ≤ n) : (x :: r).drop (1 + n).toNat = r.drop n.toNat := by
  rw [show (1 + n).toNat = n.toNat + 1 by omega]; rfl

/-- the bytes of a number, seven bits each, all with the mark of one that follows -/
def septHi (n : Nat) : List Int := if n = 0 then [] else septHi (n / 128) ++ [128 + ((n % 128 : Nat) : Int)]
  termination_by n
  decreasing_by exact Nat.div_lt_self (by omega) (by decide)
/-- a number, seven bits each -/
def sept (n : Nat) : List Int := septHi (n / 128) ++ [((n % 128 : Nat) : Int)]
/-- a number's bytes, the greatest first -/
def be (n : Nat) : List Int := if n = 0 then [] else be (n / 256) ++ [((n % 256 : Nat) : Int)]
  termination_by n
  decreasing_by exact Nat.div_lt_self (by omega) (by decide)
def lenB (n : Int) : List Int := if n < 128 then [n] else (128 + ((be n.toNat).length : Int)) :: be n.toNat
def firstB (h : Hd) : Int := 64 * h.cls + (if h.cons = true then 32 else 0)
def idB (h : Hd) : List Int := if h.tag < 31 then [firstB h + h.tag] else (firstB h + 31) :: sept h.tag.toNat
/-- a header's bytes -/
def hdB (h : Hd) : List Int := idB h ++ lenB h.len
/-- is it one? -/
def HdOk (h : Hd) : Prop := (0 ≤ h.cls ∧ h.cls ≤ 3) ∧ (0 ≤ h.tag ∧ h.tag ≤ 268435455) ∧ (0 ≤ h.len ∧ h.len ≤ 2147483647)
instance (h : Hd) : Decidable (HdOk h) := by unfold HdOk; infer_instance
def hdOk (h : Hd) : Bool := decide (HdOk h)
theorem hdOk_iff {h : Hd} : hdOk h = true ↔ HdOk h := decide_eq_true_iff

theorem septHi_zero : septHi 0 = [] := by rw [septHi]; simp
theorem septHi_pos {n : Nat} (h : n ≠ 0) : septHi n = septHi (n / 128) ++ [128 + ((n % 128 : Nat) : Int)] := by rw [septHi, if_neg h]
theorem be_zero : be 0 = [] := by rw [be]; simp
theorem be_pos {n : Nat} (h : n ≠ 0) : be n = be (n / 256) ++ [((n % 256 : Nat) : Int)] := by rw [be, if_neg h]

theorem be_len : ∀ (c n : Nat), n < 256 ^ c → (be n).length ≤ c
  | 0, n, h => by simp at h; subst h; rw [be_zero]; simp
  | c + 1, n, h => by
    by_cases h0 : n = 0
    · subst h0; rw [be_zero]; simp
    · rw [be_pos h0]
      have := be_len c (n / 256) (by rw [Nat.pow_succ] at h; omega)
      simp; omega
theorem be_len' : ∀ (c n : Nat), n < 256 ^ (c + 1) → 256 ^ c ≤ n → (be n).length = c + 1
  | 0, n, h, h1 => by
    have h0 : n ≠ 0 := by simp at h1; omega
    rw [be_pos h0, show n / 256 = 0 by simp at h; omega, be_zero]; rfl
  | c + 1, n, h, h1 => by
    have h0 : n ≠ 0 := by have : 0 < 256 ^ (c + 1) := Nat.pow_pos (by decide); omega
    rw [be_pos h0]
    have := be_len' c (n / 256) (by rw [Nat.pow_succ] at h; omega) (by rw [Nat.pow_succ] at h1; omega)
    simp; omega

theorem rd_bd (xs : List Int) (hu : U8 xs) (h : (rd xs).2 = 0) : HdOk (rd xs).1 ∧ 2 ≤ (rd xs).1.size ∧ (rd xs).1.size ≤ xs.length := by
  match xs, hu with
  | [], _ => simp [rd] at h
  | x :: r, hu =>
    have hx := hu.head
    have hl : (((x :: r).length : Nat) : Int) = (r.length : Int) + 1 := by simp
    have ht := rdTag_bd r true 0 hu.tail (by omega)
    simp only [rd] at h ⊢
    split at h
    · rename_i h31
      split at h
      · rename_i hE
        have hL := rdLen_bd (r.drop (rdTag true 0 r).2.1.toNat) (hu.tail.drop _)
        rw [if_pos h31, if_pos hE]
        simp only [rdFin] at h ⊢
        split at h
        · rename_i hF
          rw [if_pos hF]
          simp only [List.length_drop] at hL
          have := hL.2.2.2.2.2 hF
          simp only [HdOk, hl]
          omega
        · rename_i hF; exact absurd h hF
      · rename_i hE; exact absurd h hE
    · rename_i h31
      have hL := rdLen_bd r hu.tail
      rw [if_neg h31]
      simp only [rdFin] at h ⊢
      split at h
      · rename_i hF
        rw [if_pos hF]
        have := hL.2.2.2.2.2 hF
        simp only [HdOk, hl]
        omega
      · rename_i hF; exact absurd h hF

theorem rd_err (xs : List Int) (h : (rd xs).2 ≠ 0) : (rd xs).1 = Hd.zero := by
  match xs with
  | [] => simp [rd]
  | x :: r =>
    simp only [rd, rdFin] at h ⊢
    repeat' split
    all_goals simp_all

/-- the first value: its header, its content, the rest, the error -/
def oneT (xs : List Int) : Hd × List Int × List Int × Int :=
  if (rd xs).2 ≠ 0 then (Hd.zero, [], [], (rd xs).2)
  else if (rd xs).1.len > xs.length - (rd xs).1.size then (Hd.zero, [], [], 2)
  else ((rd xs).1, (xs.drop (rd xs).1.size.toNat).take (rd xs).1.len.toNat, xs.drop ((rd xs).1.size + (rd xs).1.len).toNat, 0)

theorem septHi_le : ∀ (c n : Nat), n < 128 ^ c → (septHi n).length ≤ c
  | 0, n, h => by simp at h; subst h; rw [septHi_zero]; simp
  | c + 1, n, h => by
    by_cases h0 : n = 0
    · subst h0; rw [septHi_zero]; simp
    · rw [septHi_pos h0]
      have := septHi_le c (n / 128) (by rw [Nat.pow_succ] at h; omega)
      simp; omega
theorem hdB_len {h : Hd} (hok : HdOk h) : (hdB h).length ≤ 12 := by
  obtain ⟨_, ⟨t0, t1⟩, ⟨l0, l1⟩⟩ := hok
  have h1 : (idB h).length ≤ 6 := by
    unfold idB
    split
    · simp
    · have := septHi_le 4 (h.tag.toNat / 128) (by omega)
      simp [sept]; omega
  have h2 : (lenB h.len).length ≤ 6 := by
    unfold lenB
    split
    · simp
    · have := be_len 4 h.len.toNat (by omega)
      simp; omega
  simp [hdB]; omega

end Go.Proofs.Ytildhebaikeknaa
