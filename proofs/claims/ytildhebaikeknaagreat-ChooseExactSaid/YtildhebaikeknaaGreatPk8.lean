/- Several texts in one: TlvSpec, Tlv1, Tlv2, Tlv3, TlvOne, TlvMath, TlvMath2, RefSept. -/
import Derived.Test.YtildhebaikeknaaGreatPk1
import Derived.Deep.RegionHeld3
/-! TlvSpec -/
namespace Go.Proofs.YtildhebaikeknaaGreat
open Go.RowKit

structure Hd where
  cls : Int
  tag : Int
  cons : Bool
  len : Int
  size : Int

def Hd.val (h : Hd) : Value := .agg #[.int .i64 h.cls, .int .i64 h.tag, .bool h.cons, .int .i64 h.len, .int .i64 h.size]
def Hd.zero : Hd := ⟨0, 0, false, 0, 0⟩

/-- a long tag: first byte?, what has come, the rest: the tag, its bytes, the error -/
def rdTag : Bool → Int → List Int → Int × Int × Int
  | _, _, [] => (0, 0, 2)
  | first, t, x :: r =>
    if first = true ∧ x = 128 then (0, 0, 3)
    else if t * 128 + x % 128 > 268435455 then (0, 0, 3)
    else if x ≥ 128 then
      (if (rdTag false (t * 128 + x % 128) r).2.2 = 0 then ((rdTag false (t * 128 + x % 128) r).1, (rdTag false (t * 128 + x % 128) r).2.1 + 1, 0) else (0, 0, (rdTag false (t * 128 + x % 128) r).2.2))
    else if t * 128 + x < 31 then (0, 0, 3) else (t * 128 + x, 1, 0)

/-- the bytes of a length: first?, how many, what has come, the rest: the length, the error -/
def lenGo : Bool → Nat → Int → List Int → Int × Int
  | _, 0, t, _ => if t > 2147483647 ∨ t < 128 then (0, 4) else (t, 0)
  | _, _ + 1, _, [] => (0, 2)
  | first, n + 1, t, x :: r => if first = true ∧ x = 0 then (0, 4) else lenGo false n (t * 256 + x) r

/-- a length: its value, its bytes, the error -/
def rdLen : List Int → Int × Int × Int
  | [] => (0, 0, 2)
  | x :: r =>
    if x < 128 then (x, 1, 0)
    else if x = 128 ∨ x > 132 then (0, 0, 4)
    else if (lenGo true (x - 128).toNat 0 r).2 = 0 then ((lenGo true (x - 128).toNat 0 r).1, x - 127, 0) else (0, 0, (lenGo true (x - 128).toNat 0 r).2)

/-- what stands behind the tag, whose number, form and bytes are known -/
def rdFin (cls tag : Int) (cons : Bool) (n : Int) (r : List Int) : Hd × Int :=
  if (rdLen r).2.2 = 0 then (⟨cls, tag, cons, (rdLen r).1, n + (rdLen r).2.1⟩, 0) else (Hd.zero, (rdLen r).2.2)

/-- a header -/
def rd : List Int → Hd × Int
  | [] => (Hd.zero, 2)
  | x :: r =>
    if x % 32 = 31 then
      (if (rdTag true 0 r).2.2 = 0 then rdFin (x / 64) (rdTag true 0 r).1 (decide (x / 32 % 2 = 1)) (1 + (rdTag true 0 r).2.1) (r.drop (rdTag true 0 r).2.1.toNat) else (Hd.zero, (rdTag true 0 r).2.2))
    else rdFin (x / 64) (x % 32) (decide (x / 32 % 2 = 1)) 1 r

theorem rdTag_bd : ∀ (xs : List Int) (f : Bool) (t : Int), U8 xs → 0 ≤ t → 0 ≤ (rdTag f t xs).2.1 ∧ (rdTag f t xs).2.1 ≤ xs.length ∧ 0 ≤ (rdTag f t xs).1 ∧ (rdTag f t xs).1 ≤ 268435455
  | [], _, _, _, _ => by simp [rdTag]
  | x :: r, f, t, hu, ht => by
    have hx := hu.head
    have ih := rdTag_bd r false (t * 128 + x % 128) hu.tail (by omega)
    have hl : (((x :: r).length : Nat) : Int) = (r.length : Int) + 1 := by simp
    rw [rdTag]
    repeat' split
    all_goals simp only [hl]
    all_goals omega

theorem lenGo_bd : ∀ (n : Nat) (xs : List Int) (f : Bool) (t : Int), U8 xs → 0 ≤ t → (lenGo f n t xs).2 = 0 → n ≤ xs.length ∧ 128 ≤ (lenGo f n t xs).1 ∧ (lenGo f n t xs).1 ≤ 2147483647
  | 0, xs, f, t, _, _, h => by
    rw [lenGo] at h ⊢
    split at h
    · simp at h
    · rename_i hc; rw [if_neg hc]; dsimp only; omega
  | n + 1, [], f, t, _, _, h => by simp [lenGo] at h
  | n + 1, x :: r, f, t, hu, ht, h => by
    have hx := hu.head
    rw [lenGo] at h ⊢
    split at h
    · simp at h
    · rename_i hc
      rw [if_neg hc]
      have ih := lenGo_bd n r false (t * 256 + x) hu.tail (by omega) h
      simp only [List.length_cons]
      omega

theorem rdLen_bd (xs : List Int) (hu : U8 xs) : 0 ≤ (rdLen xs).2.1 ∧ (rdLen xs).2.1 ≤ 5 ∧ (rdLen xs).2.1 ≤ xs.length ∧ 0 ≤ (rdLen xs).1 ∧ (rdLen xs).1 ≤ 2147483647 ∧ ((rdLen xs).2.2 = 0 → 1 ≤ (rdLen xs).2.1) := by
  match xs, hu with
  | [], _ => simp [rdLen]
  | x :: r, hu =>
    have hx := hu.head
    have hl : (((x :: r).length : Nat) : Int) = (r.length : Int) + 1 := by simp
    rw [rdLen]
    split
    · simp only [hl]; omega
    · split
      · simp only [hl]; omega
      · split
        · rename_i h
          have := lenGo_bd _ r true 0 hu.tail (by omega) h
          simp only [hl]
          omega
        · rename_i h; simp only [hl]; omega

theorem drop_one_add (x : Int) (r : List Int) (n : Int) (h : 0 ≤ n) : (x :: r).drop (1 + n).toNat = r.drop n.toNat := by
  rw [show (1 + n).toNat = n.toNat + 1 by omega]; rfl

/-- the bytes of a number, seven bits each, all with the mark of one that follows -/
def septHi (n : Nat) : List Int := if n = 0 then [] else septHi (n / 128) ++ [128 + ((n % 128 : Nat) : Int)]
  termination_by n
  decreasing_by exact Nat.div_lt_self (by omega) (by decide)
/-- a number, seven bits each -/
def sept (n : Nat) : List Int := septHi (n / 128) ++ [((n % 128 : Nat) : Int)]
/-- a number's bytes, the greatest first -/
def be (n : Nat) : List Int := if n = 0 then [] else be (n / 256) ++ [((n % 256 : Nat) : Int)]
  termination_by n
  decreasing_by exact Nat.div_lt_self (by omega) (by decide)
def lenB (n : Int) : List Int := if n < 128 then [n] else (128 + ((be n.toNat).length : Int)) :: be n.toNat
def firstB (h : Hd) : Int := 64 * h.cls + (if h.cons = true then 32 else 0)
def idB (h : Hd) : List Int := if h.tag < 31 then [firstB h + h.tag] else (firstB h + 31) :: sept h.tag.toNat
/-- a header's bytes -/
def hdB (h : Hd) : List Int := idB h ++ lenB h.len
/-- is it one? -/
def HdOk (h : Hd) : Prop := (0 ≤ h.cls ∧ h.cls ≤ 3) ∧ (0 ≤ h.tag ∧ h.tag ≤ 268435455) ∧ (0 ≤ h.len ∧ h.len ≤ 2147483647)
instance (h : Hd) : Decidable (HdOk h) := by unfold HdOk; infer_instance
def hdOk (h : Hd) : Bool := decide (HdOk h)
theorem hdOk_iff {h : Hd} : hdOk h = true ↔ HdOk h := decide_eq_true_iff

theorem septHi_zero : septHi 0 = [] := by rw [septHi]; simp
theorem septHi_pos {n : Nat} (h : n ≠ 0) : septHi n = septHi (n / 128) ++ [128 + ((n % 128 : Nat) : Int)] := by rw [septHi, if_neg h]
theorem be_zero : be 0 = [] := by rw [be]; simp
theorem be_pos {n : Nat} (h : n ≠ 0) : be n = be (n / 256) ++ [((n % 256 : Nat) : Int)] := by rw [be, if_neg h]

theorem be_len : ∀ (c n : Nat), n < 256 ^ c → (be n).length ≤ c
  | 0, n, h => by simp at h; subst h; rw [be_zero]; simp
  | c + 1, n, h => by
    by_cases h0 : n = 0
    · subst h0; rw [be_zero]; simp
    · rw [be_pos h0]
      have := be_len c (n / 256) (by rw [Nat.pow_succ] at h; omega)
      simp; omega
theorem be_len' : ∀ (c n : Nat), n < 256 ^ (c + 1) → 256 ^ c ≤ n → (be n).length = c + 1
  | 0, n, h, h1 => by
    have h0 : n ≠ 0 := by simp at h1; omega
    rw [be_pos h0, show n / 256 = 0 by simp at h; omega, be_zero]; rfl
  | c + 1, n, h, h1 => by
    have h0 : n ≠ 0 := by have : 0 < 256 ^ (c + 1) := Nat.pow_pos (by decide); omega
    rw [be_pos h0]
    have := be_len' c (n / 256) (by rw [Nat.pow_succ] at h; omega) (by rw [Nat.pow_succ] at h1; omega)
    simp; omega

theorem rd_bd (xs : List Int) (hu : U8 xs) (h : (rd xs).2 = 0) : HdOk (rd xs).1 ∧ 2 ≤ (rd xs).1.size ∧ (rd xs).1.size ≤ xs.length := by
  match xs, hu with
  | [], _ => simp [rd] at h
  | x :: r, hu =>
    have hx := hu.head
    have hl : (((x :: r).length : Nat) : Int) = (r.length : Int) + 1 := by simp
    have ht := rdTag_bd r true 0 hu.tail (by omega)
    simp only [rd] at h ⊢
    split at h
    · rename_i h31
      split at h
      · rename_i hE
        have hL := rdLen_bd (r.drop (rdTag true 0 r).2.1.toNat) (hu.tail.drop _)
        rw [if_pos h31, if_pos hE]
        simp only [rdFin] at h ⊢
        split at h
        · rename_i hF
          rw [if_pos hF]
          simp only [List.length_drop] at hL
          have := hL.2.2.2.2.2 hF
          simp only [HdOk, hl]
          omega
        · rename_i hF; exact absurd h hF
      · rename_i hE; exact absurd h hE
    · rename_i h31
      have hL := rdLen_bd r hu.tail
      rw [if_neg h31]
      simp only [rdFin] at h ⊢
      split at h
      · rename_i hF
        rw [if_pos hF]
        have := hL.2.2.2.2.2 hF
        simp only [HdOk, hl]
        omega
      · rename_i hF; exact absurd h hF

theorem rd_err (xs : List Int) (h : (rd xs).2 ≠ 0) : (rd xs).1 = Hd.zero := by
  match xs with
  | [] => simp [rd]
  | x :: r =>
    simp only [rd, rdFin] at h ⊢
    repeat' split
    all_goals simp_all

/-- the first value: its header, its content, the rest, the error -/
def oneT (xs : List Int) : Hd × List Int × List Int × Int :=
  if (rd xs).2 ≠ 0 then (Hd.zero, [], [], (rd xs).2)
  else if (rd xs).1.len > xs.length - (rd xs).1.size then (Hd.zero, [], [], 2)
  else ((rd xs).1, (xs.drop (rd xs).1.size.toNat).take (rd xs).1.len.toNat, xs.drop ((rd xs).1.size + (rd xs).1.len).toNat, 0)

theorem septHi_le : ∀ (c n : Nat), n < 128 ^ c → (septHi n).length ≤ c
  | 0, n, h => by simp at h; subst h; rw [septHi_zero]; simp
  | c + 1, n, h => by
    by_cases h0 : n = 0
    · subst h0; rw [septHi_zero]; simp
    · rw [septHi_pos h0]
      have := septHi_le c (n / 128) (by rw [Nat.pow_succ] at h; omega)
      simp; omega
theorem hdB_len {h : Hd} (hok : HdOk h) : (hdB h).length ≤ 12 := by
  obtain ⟨_, ⟨t0, t1⟩, ⟨l0, l1⟩⟩ := hok
  have h1 : (idB h).length ≤ 6 := by
    unfold idB
    split
    · simp
    · have := septHi_le 4 (h.tag.toNat / 128) (by omega)
      simp [sept]; omega
  have h2 : (lenB h.len).length ≤ 6 := by
    unfold lenB
    split
    · simp
    · have := be_len 4 h.len.toNat (by omega)
      simp; omega
  simp [hdB]; omega

end Go.Proofs.YtildhebaikeknaaGreat

/-! Tlv1 -/
namespace Go.Proofs.YtildhebaikeknaaGreat
open Go.RowKit

def triT (t : Int × Int × Int) : Value := .tuple #[.int .i64 t.1, .int .i64 t.2.1, .int .i64 t.2.2]

def lift3 (k : Nat) (r : Int × Int × Int) : Int × Int × Int := if r.2.2 = 0 then (r.1, r.2.1 + k, 0) else (0, 0, r.2.2)
theorem rdTag_zero : ∀ (xs : List Int) (f : Bool) (t : Int), rdTag f t xs = lift3 0 (rdTag f t xs)
  | [], _, _ => by simp [rdTag, lift3]
  | x :: r, f, t => by
    rw [rdTag]
    repeat' split
    all_goals simp [lift3, *]

section
variable {xs : List Int} {k : Nat} {t x : Int}
theorem tag_step (h : rdTag true 0 xs = lift3 k (rdTag (decide (k = 0)) t (xs.drop k))) (hx : x = xs.getD k 0) (hk : k < xs.length) :
    rdTag true 0 xs = lift3 k (rdTag (decide (k = 0)) t (x :: xs.drop (k + 1))) := by rw [h, drop_getD hx hk]
theorem tag_bad (h : Hid (rdTag true 0 xs = lift3 k (rdTag (decide (k = 0)) t (x :: xs.drop (k + 1))))) (hb : (k = 0 ∧ x = 128) ∨ 268435455 < t * 128 + x % 128) : rdTag true 0 xs = (0, 0, 3) := by
  rw [h.out, rdTag]
  rcases hb with ⟨rfl, rfl⟩ | hb
  · simp [lift3]
  · by_cases h1 : decide (k = 0) = true ∧ x = 128
    · rw [if_pos h1]; simp [lift3]
    · rw [if_neg h1, if_pos hb]; simp [lift3]
theorem tag_on (h : Hid (rdTag true 0 xs = lift3 k (rdTag (decide (k = 0)) t (x :: xs.drop (k + 1))))) (h1 : t * 128 + x % 128 ≤ 268435455) (h2 : 128 ≤ x) (h3 : ¬ k = 0 ∨ ¬ x = 128) :
    Hid (rdTag true 0 xs = lift3 (k + 1) (rdTag (decide (k + 1 = 0)) (t * 128 + x % 128) (xs.drop (k + 1)))) := by
  show _ = _
  rw [h.out, rdTag, if_neg (by simp; omega), if_neg (by omega), if_pos h2]
  simp only [Nat.add_eq_zero_iff, Nat.one_ne_zero, and_false, decide_false]
  unfold lift3
  split <;> simp_all
  omega
theorem tag_small (h : Hid (rdTag true 0 xs = lift3 k (rdTag (decide (k = 0)) t (x :: xs.drop (k + 1))))) (h0 : 0 ≤ x) (_h1 : t * 128 + x % 128 ≤ 268435455) (h2 : x < 128) (h3 : t * 128 + x % 128 < 31) :
    rdTag true 0 xs = (0, 0, 3) := by
  rw [h.out, rdTag, if_neg (by simp; omega), if_neg (by omega), if_neg (by omega), if_pos (by omega)]
  simp [lift3]
theorem tag_end (h : Hid (rdTag true 0 xs = lift3 k (rdTag (decide (k = 0)) t (x :: xs.drop (k + 1))))) (h0 : 0 ≤ x) (h1 : t * 128 + x % 128 ≤ 268435455) (h2 : x < 128) (h3 : 31 ≤ t * 128 + x % 128) :
    rdTag true 0 xs = (t * 128 + x, 1 + (k : Int), 0) := by
  rw [h.out, rdTag, if_neg (by simp; omega), if_neg (by omega), if_neg (by omega), if_neg (by omega)]
  simp [lift3]
end

end Go.Proofs.YtildhebaikeknaaGreat

/-! Tlv2 -/
namespace Go.Proofs.YtildhebaikeknaaGreat
open Go.RowKit

def lfin (m : Nat) (r : Int × Int) : Int × Int × Int := if r.2 = 0 then (r.1, (m : Int) + 1, 0) else (0, 0, r.2)
def lbd (k : Nat) (t : Int) : Prop := 0 ≤ t ∧ t ≤ 4294967295 ∧ (k = 1 → t = 0) ∧ (k = 2 → t ≤ 255) ∧ (k = 3 → t ≤ 65535) ∧ (k = 4 → t ≤ 16777215)
section
variable {xs : List Int} {k m : Nat} {t x : Int}
theorem len_start (hx : xs ≠ []) (h0 : xs.getD 0 0 = 128 + (m : Int)) (h1 : 1 ≤ m) (h4 : m ≤ 4) : rdLen xs = lfin m (lenGo (decide (1 = 1)) (m + 1 - 1) 0 (xs.drop 1)) := by
  match xs, hx with
  | y :: r, _ =>
    have hy : y = 128 + (m : Int) := h0
    have e : (y - 128).toNat = m := by omega
    rw [rdLen, if_neg (by omega), if_neg (by omega), e]
    unfold lfin
    simp
    split <;> simp
    omega
theorem len_step (h : rdLen xs = lfin m (lenGo (decide (k = 1)) (m + 1 - k) t (xs.drop k))) (hx : x = xs.getD k 0) (hk : k < xs.length) (hm : k ≤ m) :
    rdLen xs = lfin m (lenGo (decide (k = 1)) (m - k + 1) t (x :: xs.drop (k + 1))) := by rw [h, drop_getD hx hk, show m + 1 - k = m - k + 1 by omega]
theorem len_zero (h : Hid (rdLen xs = lfin m (lenGo (decide (k = 1)) (m - k + 1) t (x :: xs.drop (k + 1))))) (h1 : k = 1) (h2 : x = 0) : rdLen xs = (0, 0, 4) := by
  rw [h.out, lenGo, if_pos (by simp [h1, h2])]; simp [lfin]
theorem len_on (h : Hid (rdLen xs = lfin m (lenGo (decide (k = 1)) (m - k + 1) t (x :: xs.drop (k + 1))))) (h1 : ¬ k = 1 ∨ ¬ x = 0) (h2 : 1 ≤ k) :
    Hid (rdLen xs = lfin m (lenGo (decide (k + 1 = 1)) (m + 1 - (k + 1)) (t * 256 + x) (xs.drop (k + 1)))) := by
  show _ = _
  have e : decide (k + 1 = 1) = false := by simp; omega
  rw [h.out, lenGo, if_neg (by simp; omega), e, show m + 1 - (k + 1) = m - k by omega]
theorem len_short (h : Hid (rdLen xs = lfin m (lenGo (decide (k = 1)) (m + 1 - k) t (xs.drop k)))) (h1 : k ≤ m) (h2 : xs.length ≤ k) : rdLen xs = (0, 0, 2) := by
  rw [h.out, List.drop_eq_nil_of_le h2, show m + 1 - k = m - k + 1 by omega, lenGo]; simp [lfin]
theorem len_end (h : Hid (rdLen xs = lfin m (lenGo (decide (k = 1)) (m + 1 - k) t (xs.drop k)))) (h1 : ¬ k ≤ m) : rdLen xs = if t > 2147483647 ∨ t < 128 then (0, 0, 4) else (t, (m : Int) + 1, 0) := by
  rw [h.out, show m + 1 - k = 0 by omega, lenGo]; unfold lfin; split <;> simp
end

end Go.Proofs.YtildhebaikeknaaGreat

/-! Tlv3 -/
namespace Go.Proofs.YtildhebaikeknaaGreat
open Go.RowKit

section
variable {x : Int} {r : List Int} {T N E L M F : Int}
theorem rd_long_bad (h : x % 32 = 31) (hT : rdTag true 0 r = (T, N, E)) (hE : E ≠ 0) : rd (x :: r) = (Hd.zero, E) := by
  simp [rd, h, hT, hE]
theorem rd_long_fin (h : x % 32 = 31) (hT : rdTag true 0 r = (T, N, 0)) (hL : rdLen (r.drop N.toNat) = (L, M, F)) : rd (x :: r) = if F = 0 then (⟨x / 64, T, decide (x / 32 % 2 = 1), L, 1 + N + M⟩, 0) else (Hd.zero, F) := by
  simp [rd, h, hT, rdFin, hL]
theorem rd_short_fin (h : ¬ x % 32 = 31) (hL : rdLen r = (L, M, F)) : rd (x :: r) = if F = 0 then (⟨x / 64, x % 32, decide (x / 32 % 2 = 1), L, 1 + M⟩, 0) else (Hd.zero, F) := by
  simp [rd, h, rdFin, hL]
end

end Go.Proofs.YtildhebaikeknaaGreat

/-! TlvOne -/
namespace Go.Proofs.YtildhebaikeknaaGreat
open Go.RowKit

theorem loadHead {c0 c1 c2 c3 c4 : Value} {B : Nat} {w : World} (h : Box 61 [c0, c1, c2, c3, c4] B w) :
    (loadVar 61 ⟨B, 0, none⟩).run Tryz.prog w = .ok (.agg #[c0, c1, c2, c3, c4]) w := by
  obtain ⟨k0, k1, k2, k3, k4⟩ := h.five
  simp [go_sem, k0, k1, k2, k3, k4]
theorem results_cell4 {fn : Func} {p u v x : Tmp} {ty : TypeId} (h : fn.results = #[.cell p ty, .tmp u, .tmp v, .tmp x]) (tmps : Array Value) (P : Program) (w : World) :
    (results fn tmps).run P w = ((asAddr (tmps.getD p undef)).run P w).andThen fun a w₁ => ((loadVar ty a).run P w₁).andThen fun y w₂ => .ok (.tuple #[y, tmps.getD u undef, tmps.getD v undef, tmps.getD x undef]) w₂ := by
  simp only [results, h]
  simp [Sem.run_bind, Result.andThen]
theorem asAddr_ptr (P : Program) (w : World) (a : Addr) : (asAddr (.pointer (some a))).run P w = .ok a w := by simp [asAddr]
theorem results_hd3 {fn : Func} {p u v x : Tmp} (h : fn.results = #[.cell p 61, .tmp u, .tmp v, .tmp x]) {tmps : Array Value} {B : Nat} (hp : tmps.getD p undef = .pointer (some ⟨B, 0, none⟩)) {w : World}
    {c0 c1 c2 c3 c4 : Value} (hb : Box 61 [c0, c1, c2, c3, c4] B w) :
    (results fn tmps).run Tryz.prog w = .ok (.tuple #[.agg #[c0, c1, c2, c3, c4], tmps.getD u undef, tmps.getD v undef, tmps.getD x undef]) w := by
  rw [results_cell4 h, hp, asAddr_ptr]
  simp only [Result.andThen]
  rw [loadHead hb]

theorem u8_of (xs : List Int) (h : xs.all (fun x => decide (0 ≤ x ∧ x ≤ 255)) = true) : U8 xs := fun x hx => by
  have := List.all_eq_true.1 h x hx
  simpa using this

theorem oneS_of {zs : List Int} {hd : Hd} (hr : rd zs = (hd, 0)) (h : hd.len ≤ zs.length - hd.size) : oneT zs = (hd, (zs.drop hd.size.toNat).take hd.len.toNat, zs.drop (hd.size + hd.len).toNat, 0) := by
  have e1 : ¬ ((rd zs).2 ≠ 0) := by rw [hr]; simp
  have e2 : ¬ ((rd zs).1.len > zs.length - (rd zs).1.size) := by rw [hr]; exact Int.not_lt.2 h
  unfold oneT
  rw [if_neg e1, if_neg e2, hr]
theorem results_cell2 {fn : Func} {p u : Tmp} {ty : TypeId} (h : fn.results = #[.cell p ty, .tmp u]) (tmps : Array Value) (P : Program) (w : World) :
    (results fn tmps).run P w = ((asAddr (tmps.getD p undef)).run P w).andThen fun a w₁ => ((loadVar ty a).run P w₁).andThen fun y w₂ => .ok (.tuple #[y, tmps.getD u undef]) w₂ := by
  simp only [results, h]
  simp [Sem.run_bind, Result.andThen]
theorem results_hd1 {fn : Func} {p u : Tmp} (h : fn.results = #[.cell p 61, .tmp u]) {tmps : Array Value} {B : Nat} (hp : tmps.getD p undef = .pointer (some ⟨B, 0, none⟩)) {w : World}
    {c0 c1 c2 c3 c4 : Value} (hb : Box 61 [c0, c1, c2, c3, c4] B w) :
    (results fn tmps).run Tryz.prog w = .ok (.tuple #[.agg #[c0, c1, c2, c3, c4], tmps.getD u undef]) w := by
  rw [results_cell2 h, hp, asAddr_ptr]
  simp only [Result.andThen]
  rw [loadHead hb]


end Go.Proofs.YtildhebaikeknaaGreat

/-! TlvMath -/
namespace Go.Proofs.YtildhebaikeknaaGreat
open Go.RowKit

theorem septHi_step (t x : Nat) (h : t * 128 + x ≠ 0) (hx : x < 128) : septHi (t * 128 + x) = septHi t ++ [128 + (x : Int)] := by
  rw [septHi_pos h, show (t * 128 + x) / 128 = t by omega, show (t * 128 + x) % 128 = x by omega]
theorem be_step (t x : Nat) (h : t * 256 + x ≠ 0) (hx : x < 256) : be (t * 256 + x) = be t ++ [(x : Int)] := by
  rw [be_pos h, show (t * 256 + x) / 256 = t by omega, show (t * 256 + x) % 256 = x by omega]

theorem rdTag_only : ∀ (xs : List Int) (f : Bool) (t : Int), U8 xs → 0 ≤ t → (f = false → t ≠ 0) → (f = true → t = 0) → (rdTag f t xs).2.2 = 0 →
    septHi t.toNat ++ xs.take (rdTag f t xs).2.1.toNat = sept (rdTag f t xs).1.toNat ∧ 31 ≤ (rdTag f t xs).1
  | [], _, _, _, _, _, _, h => by simp [rdTag] at h
  | x :: r, f, t, hu, h0, hf, ht, h => by
    have hx := hu.head
    have hb := rdTag_bd r false (t * 128 + x % 128) hu.tail (by omega)
    rw [rdTag] at h ⊢
    split at h
    · simp at h
    · rename_i c1
      rw [if_neg c1]
      split at h
      · simp at h
      · rename_i c2
        rw [if_neg c2]
        split at h
        · rename_i c3
          rw [if_pos c3]
          split at h
          · rename_i c4
            rw [if_pos c4]
            have hnz : t * 128 + x % 128 ≠ 0 := by
              cases f with
              | true => have := ht rfl; simp at c1; omega
              | false => have := hf rfl; omega
            have ih := rdTag_only r false (t * 128 + x % 128) hu.tail (by omega) (fun _ => hnz) (by simp) c4
            refine ⟨?_, ih.2⟩
            rw [← ih.1]
            dsimp only
            have e : (t * 128 + x % 128).toNat = t.toNat * 128 + (x % 128).toNat := by omega
            rw [show ((rdTag false (t * 128 + x % 128) r).2.1 + 1).toNat = (rdTag false (t * 128 + x % 128) r).2.1.toNat + 1 by omega, List.take_succ_cons, e, septHi_step _ _ (by omega) (by omega)]
            rw [show (128 : Int) + (((x % 128).toNat : Nat) : Int) = x by omega]
            simp
          · rename_i c4; exact absurd h c4
        · rename_i c3
          rw [if_neg c3]
          split at h
          · simp at h
          · rename_i c4
            rw [if_neg c4]
            refine ⟨?_, by dsimp only; omega⟩
            dsimp only
            have e : (t * 128 + x).toNat = t.toNat * 128 + x.toNat := by omega
            rw [e, sept, show (t.toNat * 128 + x.toNat) / 128 = t.toNat by omega, show (t.toNat * 128 + x.toNat) % 128 = x.toNat by omega]
            rw [show ((x.toNat : Nat) : Int) = x by omega]
            simp

theorem lenGo_only : ∀ (n : Nat) (xs : List Int) (f : Bool) (t : Int), U8 xs → 0 ≤ t → (f = false → t ≠ 0) → (f = true → t = 0) → (lenGo f n t xs).2 = 0 →
    be t.toNat ++ xs.take n = be (lenGo f n t xs).1.toNat
  | 0, xs, f, t, _, _, _, _, h => by
    rw [lenGo] at h ⊢
    split at h
    · simp at h
    · rename_i c; rw [if_neg c]; simp
  | n + 1, [], f, t, _, _, _, _, h => by simp [lenGo] at h
  | n + 1, x :: r, f, t, hu, h0, hf, ht, h => by
    have hx := hu.head
    rw [lenGo] at h ⊢
    split at h
    · simp at h
    · rename_i c
      rw [if_neg c]
      have hnz : t * 256 + x ≠ 0 := by
        cases f with
        | true => have := ht rfl; simp at c; omega
        | false => have := hf rfl; omega
      have ih := lenGo_only n r false (t * 256 + x) hu.tail (by omega) (fun _ => hnz) (by simp) h
      rw [← ih, show (t * 256 + x).toNat = t.toNat * 256 + x.toNat by omega, be_step _ _ (by omega) (by omega), show ((x.toNat : Nat) : Int) = x by omega]
      simp

theorem rdLen_only (xs : List Int) (hu : U8 xs) (h : (rdLen xs).2.2 = 0) : xs.take (rdLen xs).2.1.toNat = lenB (rdLen xs).1 := by
  match xs, hu with
  | [], _ => simp [rdLen] at h
  | x :: r, hu =>
    have hx := hu.head
    rw [rdLen] at h ⊢
    split at h
    · rename_i c
      rw [if_pos c]
      simp [lenB, c]
    · rename_i c
      rw [if_neg c]
      split at h
      · simp at h
      · rename_i c2
        rw [if_neg c2]
        split at h
        · rename_i c3
          rw [if_pos c3]
          have hb := lenGo_bd _ r true 0 hu.tail (by omega) c3
          have ho := lenGo_only _ r true 0 hu.tail (by omega) (by simp) (by simp) c3
          dsimp only
          rw [lenB, if_neg (by omega), ← ho]
          simp only [Int.toNat_zero, be_zero, List.nil_append, List.length_take]
          rw [show (x - 127).toNat = (x - 128).toNat + 1 by omega, List.take_succ_cons]
          congr 1
          omega
        · rename_i c3; exact absurd h c3

theorem rdFin_only (c t : Int) (b : Bool) (n : Int) (r : List Int) (h : (rdFin c t b n r).2 = 0) : (rdLen r).2.2 = 0 ∧ (rdFin c t b n r).1 = ⟨c, t, b, (rdLen r).1, n + (rdLen r).2.1⟩ := by
  rw [rdFin] at h ⊢
  split at h
  · rename_i k; rw [if_pos k]; exact ⟨k, rfl⟩
  · rename_i k; exact absurd h k

theorem first_bits (x : Int) (_h0 : 0 ≤ x) (_h1 : x ≤ 255) : 64 * (x / 64) + (if decide (x / 32 % 2 = 1) = true then 32 else 0) + x % 32 = x := by
  split <;> rename_i h <;> simp at h <;> omega

/-- what is read is written to the same bytes -/
theorem rd_only (xs : List Int) (hu : U8 xs) (h : (rd xs).2 = 0) : hdB (rd xs).1 = xs.take (rd xs).1.size.toNat := by
  match xs, hu with
  | [], _ => simp [rd] at h
  | x :: r, hu =>
    have hx := hu.head
    have hf := first_bits x hx.1 hx.2
    rw [rd] at h ⊢
    split at h
    · rename_i c
      rw [if_pos c]
      split at h
      · rename_i c2
        rw [if_pos c2]
        have ht := rdTag_only r true 0 hu.tail (by omega) (by simp) (by simp) c2
        have hb := rdTag_bd r true 0 hu.tail (by omega)
        obtain ⟨k1, k2⟩ := rdFin_only _ _ _ _ _ h
        have hl := rdLen_only _ (hu.tail.drop _) k1
        have hb2 := rdLen_bd _ (hu.tail.drop (rdTag true 0 r).2.1.toNat)
        rw [k2]
        simp only [hdB, idB, firstB]
        rw [if_neg (by omega), ← hl, ← ht.1]
        simp only [Int.toNat_zero, septHi_zero, List.nil_append]
        rw [show (1 + (rdTag true 0 r).2.1 + (rdLen (r.drop (rdTag true 0 r).2.1.toNat)).2.1).toNat = (rdTag true 0 r).2.1.toNat + (rdLen (r.drop (rdTag true 0 r).2.1.toNat)).2.1.toNat + 1 by omega, List.take_succ_cons, List.take_add]
        rw [show 64 * (x / 64) + (if decide (x / 32 % 2 = 1) = true then 32 else 0) + 31 = x by omega]
        rfl
      · rename_i c2; exact absurd h c2
    · rename_i c
      rw [if_neg c]
      obtain ⟨k1, k2⟩ := rdFin_only _ _ _ _ _ h
      have hl := rdLen_only _ hu.tail k1
      have hb2 := rdLen_bd _ hu.tail
      rw [k2]
      simp only [hdB, idB, firstB]
      rw [if_pos (by omega), ← hl, hf, show (1 + (rdLen r).2.1).toNat = (rdLen r).2.1.toNat + 1 by omega, List.take_succ_cons]
      rfl

end Go.Proofs.YtildhebaikeknaaGreat

/-! TlvMath2 -/
namespace Go.Proofs.YtildhebaikeknaaGreat
open Go.RowKit

def lift3' (k : Nat) (r : Int × Int × Int) : Int × Int × Int := if r.2.2 = 0 then (r.1, r.2.1 + k, 0) else (0, 0, r.2.2)
theorem lift3'_lift3' (a b : Nat) (r : Int × Int × Int) : lift3' a (lift3' b r) = lift3' (a + b) r := by
  unfold lift3'
  split
  · simp; omega
  · simp

theorem rdTag_more (f : Bool) (t : Int) (x : Int) (r : List Int) (h1 : ¬ (f = true ∧ x = 128)) (h2 : t * 128 + x % 128 ≤ 268435455) (h3 : 128 ≤ x) : rdTag f t (x :: r) = lift3' 1 (rdTag false (t * 128 + x % 128) r) := by
  rw [rdTag, if_neg h1, if_neg (by omega), if_pos h3]
  simp [lift3']

theorem rdTag_hi : ∀ (c n : Nat) (zs : List Int), n ≤ c → n ≠ 0 → n ≤ 268435455 → rdTag true 0 (septHi n ++ zs) = lift3' (septHi n).length (rdTag false n zs)
  | 0, n, _, h, h0, _ => by omega
  | c + 1, n, zs, h, h0, hb => by
    rw [septHi_pos h0]
    by_cases hd : n / 128 = 0
    · rw [hd, septHi_zero]
      simp only [List.nil_append, List.cons_append, List.length_cons, List.length_nil]
      rw [rdTag_more _ _ _ _ (by simp; omega) (by omega) (by omega)]
      congr 2
      omega
    · have ih := rdTag_hi c (n / 128) ([128 + ((n % 128 : Nat) : Int)] ++ zs) (by omega) hd (by omega)
      rw [List.append_assoc, ih]
      simp only [List.cons_append, List.nil_append]
      rw [rdTag_more _ _ _ _ (by simp) (by omega) (by omega), lift3'_lift3', List.length_append]
      congr 2
      omega

theorem rdTag_sept (n : Nat) (zs : List Int) (h31 : 31 ≤ n) (hb : n ≤ 268435455) : rdTag true 0 (sept n ++ zs) = ((n : Int), ((sept n).length : Int), 0) := by
  rw [sept]
  by_cases hd : n / 128 = 0
  · rw [hd, septHi_zero]
    simp only [List.nil_append, List.cons_append, List.length_cons, List.length_nil]
    rw [rdTag, if_neg (by simp; omega), if_neg (by omega), if_neg (by omega), if_neg (by omega)]
    simp; omega
  · rw [List.append_assoc, rdTag_hi (n / 128) (n / 128) _ (Nat.le_refl _) hd (by omega)]
    simp only [List.cons_append, List.nil_append]
    rw [rdTag, if_neg (by simp), if_neg (by omega), if_neg (by omega), if_neg (by omega)]
    simp [lift3']
    omega

theorem lenGo_hi : ∀ (c m j : Nat) (zs : List Int), m ≤ c → m ≠ 0 → lenGo true ((be m).length + j) 0 (be m ++ zs) = lenGo false j m zs
  | 0, m, _, _, h, h0 => by omega
  | c + 1, m, j, zs, h, h0 => by
    rw [be_pos h0]
    by_cases hd : m / 256 = 0
    · rw [hd, be_zero]
      simp only [List.nil_append, List.cons_append, List.length_cons, List.length_nil]
      rw [show 0 + 1 + j = j + 1 by omega, lenGo, if_neg (by simp; omega)]
      congr 1
      omega
    · have ih := lenGo_hi c (m / 256) (1 + j) ([((m % 256 : Nat) : Int)] ++ zs) (by omega) hd
      rw [List.append_assoc, List.length_append]
      simp only [List.length_cons, List.length_nil]
      rw [show (be (m / 256)).length + (0 + 1) + j = (be (m / 256)).length + (1 + j) by omega, ih, show 1 + j = j + 1 by omega]
      simp only [List.cons_append, List.nil_append]
      rw [lenGo, if_neg (by simp)]
      congr 1
      omega

theorem rdLen_lenB (n : Int) (zs : List Int) (h0 : 0 ≤ n) (h1 : n ≤ 2147483647) : rdLen (lenB n ++ zs) = (n, ((lenB n).length : Int), 0) := by
  unfold lenB
  split
  · rename_i c
    simp [rdLen, c]
  · rename_i c
    have hl := be_len 4 n.toNat (by omega)
    have hp : 1 ≤ (be n.toNat).length := by rw [be_pos (by omega)]; simp
    have hg := lenGo_hi n.toNat n.toNat 0 zs (Nat.le_refl _) (by omega)
    rw [lenGo, if_neg (by omega)] at hg
    simp only [List.cons_append, List.length_cons]
    rw [rdLen, if_neg (by omega), if_neg (by omega), show (128 + ((be n.toNat).length : Int) - 128).toNat = (be n.toNat).length + 0 by omega, hg]
    simp
    omega

/-- what is written is read -/
theorem rd_back (h : Hd) (zs : List Int) (hok : HdOk h) : rd (hdB h ++ zs) = (⟨h.cls, h.tag, h.cons, h.len, ((hdB h).length : Int)⟩, 0) := by
  obtain ⟨cls, tag, cons, len, size⟩ := h
  obtain ⟨⟨c0, c1⟩, ⟨t0, t1⟩, ⟨l0, l1⟩⟩ := hok
  dsimp only at c0 c1 t0 t1 l0 l1
  have hL := rdLen_lenB len zs l0 l1
  simp only [hdB, idB, firstB]
  by_cases h31 : tag < 31
  · rw [if_pos h31]
    have e1 : (64 * cls + (if cons = true then 32 else 0) + tag) % 32 = tag := by split <;> omega
    have e2 : (64 * cls + (if cons = true then 32 else 0) + tag) / 64 = cls := by split <;> omega
    have e3 : decide ((64 * cls + (if cons = true then 32 else 0) + tag) / 32 % 2 = 1) = cons := by
      cases cons <;> simp <;> omega
    simp only [List.cons_append, List.nil_append]
    rw [rd, e1, if_neg (by omega), rdFin, hL, e2, e3]
    simp
    omega
  · rw [if_neg h31]
    have e1 : (64 * cls + (if cons = true then 32 else 0) + 31) % 32 = 31 := by split <;> omega
    have e2 : (64 * cls + (if cons = true then 32 else 0) + 31) / 64 = cls := by split <;> omega
    have e3 : decide ((64 * cls + (if cons = true then 32 else 0) + 31) / 32 % 2 = 1) = cons := by
      cases cons <;> simp <;> omega
    have hT := rdTag_sept tag.toNat (lenB len ++ zs) (by omega) (by omega)
    simp only [List.cons_append, List.append_assoc]
    rw [rd, e1, if_pos rfl, hT]
    dsimp only
    rw [if_pos rfl, rdFin, Int.toNat_natCast, List.drop_left, hL, e2, e3]
    simp
    omega

theorem rdTag_cut : ∀ (xs ys : List Int) (f : Bool) (t : Int), U8 xs → U8 ys → 0 ≤ t → (rdTag f t (xs ++ ys)).2.2 = 0 → (xs.length : Int) < (rdTag f t (xs ++ ys)).2.1 → (rdTag f t xs).2.2 = 2
  | [], _, _, _, _, _, _, _, _ => by simp [rdTag]
  | x :: r, ys, f, t, hu, hy, ht, h, hl => by
    have hx := hu.head
    have hlc : (((x :: r).length : Nat) : Int) = (r.length : Int) + 1 := by simp
    rw [List.cons_append, rdTag] at h hl
    rw [rdTag]
    split at h
    · simp at h
    · rename_i c1
      rw [if_neg c1] at hl ⊢
      split at h
      · simp at h
      · rename_i c2
        rw [if_neg c2] at hl ⊢
        split at h
        · rename_i c3
          rw [if_pos c3] at hl ⊢
          split at h
          · rename_i c4
            rw [if_pos c4] at hl
            have ih := rdTag_cut r ys false (t * 128 + x % 128) hu.tail hy (by omega) c4 (by simp only [hlc] at hl; omega)
            rw [ih]
            simp
          · rename_i c4; exact absurd h c4
        · rename_i c3
          rw [if_neg c3] at hl
          split at h
          · simp at h
          · rename_i c4
            rw [if_neg c4] at hl
            simp only [hlc] at hl
            omega

theorem rdTag_same : ∀ (xs ys : List Int) (f : Bool) (t : Int), U8 xs → U8 ys → 0 ≤ t → (rdTag f t (xs ++ ys)).2.2 = 0 → (rdTag f t (xs ++ ys)).2.1 ≤ (xs.length : Int) → rdTag f t xs = rdTag f t (xs ++ ys)
  | [], ys, f, t, _, hy, ht, h, hl => by
    cases ys with
    | nil => rfl
    | cons y s =>
      have hb := rdTag_bd s false (t * 128 + y % 128) hy.tail (by have := hy.head; omega)
      rw [List.nil_append, rdTag] at h hl
      split at h
      · simp at h
      · rename_i c1
        rw [if_neg c1] at hl
        split at h
        · simp at h
        · rename_i c2
          rw [if_neg c2] at hl
          split at h
          · rename_i c3
            rw [if_pos c3] at hl
            split at h
            · rename_i c4
              rw [if_pos c4] at hl
              simp only [List.length_nil] at hl
              omega
            · rename_i c4; exact absurd h c4
          · rename_i c3
            rw [if_neg c3] at hl
            split at h
            · simp at h
            · rename_i c4
              rw [if_neg c4] at hl
              simp at hl
  | x :: r, ys, f, t, hu, hy, ht, h, hl => by
    have hx := hu.head
    have hlc : (((x :: r).length : Nat) : Int) = (r.length : Int) + 1 := by simp
    rw [List.cons_append, rdTag] at h hl ⊢
    rw [rdTag]
    split at h
    · simp at h
    · rename_i c1
      rw [if_neg c1] at hl
      rw [if_neg c1, if_neg c1]
      split at h
      · simp at h
      · rename_i c2
        rw [if_neg c2] at hl
        rw [if_neg c2, if_neg c2]
        split at h
        · rename_i c3
          rw [if_pos c3] at hl
          rw [if_pos c3, if_pos c3]
          split at h
          · rename_i c4
            rw [if_pos c4] at hl
            have ih := rdTag_same r ys false (t * 128 + x % 128) hu.tail hy (by omega) c4 (by simp only [hlc] at hl; omega)
            rw [ih]
          · rename_i c4; exact absurd h c4
        · rename_i c3
          rw [if_neg c3, if_neg c3]

theorem lenGo_cut : ∀ (n : Nat) (xs ys : List Int) (f : Bool) (t : Int), (lenGo f n t (xs ++ ys)).2 = 0 → xs.length < n → (lenGo f n t xs).2 = 2
  | 0, _, _, _, _, _, hl => by omega
  | n + 1, [], _, _, _, _, _ => by simp [lenGo]
  | n + 1, x :: r, ys, f, t, h, hl => by
    rw [List.cons_append, lenGo] at h
    rw [lenGo]
    split at h
    · simp at h
    · rename_i c
      rw [if_neg c]
      exact lenGo_cut n r ys false (t * 256 + x) h (by simpa using hl)

theorem rdLen_cut (xs ys : List Int) (hu : U8 xs) (h : (rdLen (xs ++ ys)).2.2 = 0) (hl : (xs.length : Int) < (rdLen (xs ++ ys)).2.1) : (rdLen xs).2.2 = 2 := by
  match xs, hu with
  | [], _ => simp [rdLen]
  | x :: r, hu =>
    have hx := hu.head
    have hlc : (((x :: r).length : Nat) : Int) = (r.length : Int) + 1 := by simp
    rw [List.cons_append, rdLen] at h hl
    rw [rdLen]
    split at h
    · rename_i c
      rw [if_pos c] at hl
      simp only [hlc] at hl
      omega
    · rename_i c
      rw [if_neg c] at hl ⊢
      split at h
      · simp at h
      · rename_i c2
        rw [if_neg c2] at hl ⊢
        split at h
        · rename_i c3
          rw [if_pos c3] at hl
          simp only [hlc] at hl
          have := lenGo_cut (x - 128).toNat r ys true 0 c3 (by omega)
          rw [this]
          simp
        · rename_i c3; exact absurd h c3

/-- what is cut off is too short -/
theorem rd_cut (xs ys : List Int) (hu : U8 xs) (hy : U8 ys) (h : (rd (xs ++ ys)).2 = 0) (hl : (xs.length : Int) < (rd (xs ++ ys)).1.size) : rd xs = (Hd.zero, 2) := by
  match xs, hu with
  | [], _ => simp [rd]
  | x :: r, hu =>
    have hx := hu.head
    have hlc : (((x :: r).length : Nat) : Int) = (r.length : Int) + 1 := by simp
    rw [List.cons_append, rd] at h hl
    rw [rd]
    split at h
    · rename_i c
      rw [if_pos c] at hl ⊢
      split at h
      · rename_i c2
        rw [if_pos c2] at hl
        obtain ⟨k1, k2⟩ := rdFin_only _ _ _ _ _ h
        rw [k2] at hl
        simp only [hlc] at hl
        rcases Int.lt_or_le (r.length : Int) (rdTag true 0 (r ++ ys)).2.1 with hlt | hge
        · rw [rdTag_cut r ys true 0 hu.tail hy (by omega) c2 hlt]
          simp
        · have hs := rdTag_same r ys true 0 hu.tail hy (by omega) c2 hge
          have hb := rdTag_bd (r ++ ys) true 0 (hu.tail.append hy) (by omega)
          rw [← hs] at c2 hb k1 hl
          have ed : (r ++ ys).drop (rdTag true 0 r).2.1.toNat = r.drop (rdTag true 0 r).2.1.toNat ++ ys := by
            rw [List.drop_append_of_le_length (by rw [← hs] at hge; omega)]
          rw [ed] at k1 hl
          rw [← hs] at hge
          have := rdLen_cut _ ys (hu.tail.drop _) k1 (by rw [List.length_drop]; omega)
          rw [if_pos c2, rdFin, this]
          simp
      · rename_i c2; exact absurd h c2
    · rename_i c
      rw [if_neg c] at hl ⊢
      obtain ⟨k1, k2⟩ := rdFin_only _ _ _ _ _ h
      rw [k2] at hl
      simp only [hlc] at hl
      have := rdLen_cut r ys hu.tail k1 (by omega)
      rw [rdFin, this]
      simp

theorem u8_sept (n : Nat) : U8 (sept n) := by
  have hi : ∀ c n, n ≤ c → U8 (septHi n) := by
    intro c
    induction c with
    | zero => intro n h; obtain rfl : n = 0 := by omega
              rw [septHi_zero]; exact U8.nil
    | succ c ih =>
      intro n h
      by_cases h0 : n = 0
      · subst h0; rw [septHi_zero]; exact U8.nil
      · rw [septHi_pos h0]
        exact (ih _ (by omega)).append (U8.cons (by omega) U8.nil)
  exact (hi _ _ (Nat.le_refl _)).append (U8.cons (by omega) U8.nil)
theorem u8_be : ∀ (c n : Nat), n ≤ c → U8 (be n)
  | 0, n, h => by obtain rfl : n = 0 := by omega
                  rw [be_zero]; exact U8.nil
  | c + 1, n, h => by
    by_cases h0 : n = 0
    · subst h0; rw [be_zero]; exact U8.nil
    · rw [be_pos h0]
      exact (u8_be c _ (by omega)).append (U8.cons (by omega) U8.nil)
theorem u8_hdB {h : Hd} (hok : HdOk h) : U8 (hdB h) := by
  obtain ⟨⟨c0, c1⟩, ⟨t0, t1⟩, ⟨l0, l1⟩⟩ := hok
  have hf : 0 ≤ firstB h ∧ firstB h ≤ 224 := by unfold firstB; split <;> omega
  refine U8.append ?_ ?_
  · unfold idB
    split
    · exact U8.cons (by omega) U8.nil
    · exact U8.cons (by omega) (u8_sept _)
  · unfold lenB
    split
    · exact U8.cons (by omega) U8.nil
    · have := be_len 4 h.len.toNat (by omega)
      exact U8.cons (by omega) (u8_be _ _ (Nat.le_refl _))

end Go.Proofs.YtildhebaikeknaaGreat

/-! RefSept -/
namespace Go.Proofs.YtildhebaikeknaaGreat
open Go.RowKit

theorem sept_len (n : Nat) (h : n ≤ 9223372036854775807) : (sept n).length ≤ 11 := by
  have := septHi_le 10 (n / 128) (by omega)
  simp [sept]; omega

set_option maxHeartbeats 1000000 in
theorem refSept (n : Int) (w : World) (n0 : 0 ≤ n) (n1 : n ≤ 9223372036854775807) :
    Calls Tryz.prog 77 #[.int .i64 n] w fun e w' => ∃ v', e = .returned v' ∧ Own .u8 5 w.heap.size w' v' (sept n.toNat) ∧ Below w.heap.size w w' := by
  have hL := sept_len n.toNat (by omega)
  go_enter Tryz.func77, Tryz.ntmps77
  go_wp2
  go_loopw [0, 3] (fun nv bv wr => ∃ (m : Nat) (bs : List Int), nv = .int .i64 m ∧ m ≤ 9223372036854775807 ∧ Hid (Own .u8 5 w.heap.size wr bv bs) ∧ Hid (septHi m ++ bs = sept n.toNat) ∧ bs.length ≤ 11 ∧ Hid (Below w.heap.size w wr) ∧ w.heap.size ≤ wr.heap.size) (fun nv _ _ => (intOf nv).toNat)
  case atStart =>
    refine ⟨n.toNat / 128, [n % 128], by congr 1; omega, by omega, lit_own rfl (Nat.le_refl _) rfl rfl (by simp), ?_, by simp, by (repeat (first | exact Below.refl _ _ | exact below_drewN _ | refine Below.drew ?_ | refine Below.alloc ?_ (by simp) _ | refine Below.setCell ?_ (by simp) _ | refine below_drewN' ?_ _)), by simp⟩
    show _ = _
    rw [sept]
    congr 2
    omega
  case round =>
    obtain ⟨m, bs, rfl, hm, hown, heq, hlen, hbel, hsz⟩ := hrel
    rcases Nat.eq_zero_or_pos m with h0 | h0
    · subst h0
      go_wp2
      go_ret
      refine ⟨_, rfl, ?_, hbel.out⟩
      have := heq.out
      rw [septHi_zero, List.nil_append] at this
      rw [← this]
      exact hown.out
    · have e1 : (m : Int) / 128 = ((m / 128 : Nat) : Int) := by omega
      have e2 : 128 + (m : Int) % 128 = 128 + ((m % 128 : Nat) : Int) := by omega
      have E1 := hid e1
      have E2 := hid e2
      clear e1 e2
      have hp : (0 : Int) < (m : Int) := by omega
      go_wp2_with (at_builtin; refine wpList_app _ rfl _ _ 42 rfl .u8 w.heap.size 5 1 Tryz.underlying42 Tryz.infoU8 _ [128 + (m : Int) % 128] bs rfl (lit_own rfl hsz rfl rfl (by simp)) _ rfl (hown.out.sl.below (by (repeat (first | exact Below.refl _ _ | exact below_drewN _ | refine Below.drew ?_ | refine Below.alloc ?_ (by simp) _ | refine Below.setCell ?_ (by simp) _ | refine below_drewN' ?_ _)))) (by unfold maxLen; simp; omega) (by simp; omega) (by first | omega | (simp; omega) | simp) ?_; intro v2 w2 ho2 hg2 hb2 hn2)
      have hz2 := hg2.size
      simp at hz2
      have hl2 : (septHi m ++ bs).length = (sept n.toNat).length := by rw [heq.out]
      rw [septHi_pos (by omega)] at hl2
      simp at hl2
      go_roundw
      case rel =>
        refine ⟨m / 128, [128 + (m : Int) % 128] ++ bs, by rw [E1.out], by omega, ho2, ?_, by simp; omega, (hbel.out.trans ?_).trans hb2, by omega⟩
        · show _ = _
          rw [← heq.out, septHi_pos (n := m) (by omega), E2.out]
          simp
        · (repeat (first | exact Below.refl _ _ | exact below_drewN _ | refine Below.drew ?_ | refine Below.alloc ?_ (by first | omega | (simp; done) | (simp; omega)) _ | refine Below.setCell ?_ (by first | (simp; done) | (simp; omega)) _ | refine below_drewN' ?_ _))
      case measure =>
        rw [E1.out]
        simp [intOf]
        omega
end Go.Proofs.YtildhebaikeknaaGreat
