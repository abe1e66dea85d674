/- Several texts in one: Tlv1, Tlv2, Tlv3, TlvOne. -/
import Derived.Test.YtildhebaikeknaaPk17
import Derived.Test.YtildhebaikeknaaPk18
import Derived.Deep.RegionHeld3
/-! Tlv1 -/
namespace Go.Proofs.Ytildhebaikeknaa
open Go.RowKit

def triT (t : Int × Int × Int) : Value := .tuple #[.int .i64 t.1, .int .i64 t.2.1, .int .i64 t.2.2]

def lift3 (k : Nat) (r : Int × Int × Int) : Int × Int × Int := if r.2.2 = 0 then (r.1, r.2.1 + k, 0) else (0, 0, r.2.2)
theorem rdTag_zero : ∀ (xs : List Int) (f : Bool) (t : Int), rdTag f t xs = lift3 0 (rdTag f t xs)
  | [], _, _ => by simp [rdTag, lift3]
  | x :: r, f, t => by
    rw [rdTag]
    repeat' split
    all_goals simp [lift3, *]

section
variable {xs : List Int} {k : Nat} {t x : Int}
theorem tag_step (h : rdTag true 0 xs = lift3 k (rdTag (decide (k = 0)) t (xs.drop k))) (hx : x = xs.getD k 0) (hk : k < xs.length) :
    rdTag true 0 xs = lift3 k (rdTag (decide (k = 0)) t (x :: xs.drop (k + 1))) := by rw [h, drop_getD hx hk]
theorem tag_bad (h : Hid (rdTag true 0 xs = lift3 k (rdTag (decide (k = 0)) t (x :: xs.drop (k + 1))))) (hb : (k = 0 ∧ x = 128) ∨ 268435455 < t * 128 + x % 128) : rdTag true 0 xs = (0, 0, 3) := by
  rw [h.out, rdTag]
  rcases hb with ⟨rfl, rfl⟩ | hb
  · simp [lift3]
  · by_cases h1 : decide (k = 0) = true ∧ x = 128
    · rw [if_pos h1]; simp [lift3]
    · rw [if_neg h1, if_pos hb]; simp [lift3]
theorem tag_on (h : Hid (rdTag true 0 xs = lift3 k (rdTag (decide (k = 0)) t (x :: xs.drop (k + 1))))) (h1 : t * 128 + x % 128 ≤ 268435455) (h2 : 128 ≤ x) (h3 : ¬ k = 0 ∨ ¬ x = 128) :
    Hid (rdTag true 0 xs = lift3 (k + 1) (rdTag (decide (k + 1 = 0)) (t * 128 + x % 128) (xs.drop (k + 1)))) := by
  show _ = _
  rw [h.out, rdTag, if_neg (by simp; omega), if_neg (by omega), if_pos h2]
  simp only [Nat.add_eq_zero_iff, Nat.one_ne_zero, and_false, decide_false]
  unfold lift3
  split <;> simp_all
  omega
theorem tag_small (h : Hid (rdTag true 0 xs = lift3 k (rdTag (decide (k = 0)) t (x :: xs.drop (k + 1))))) (h0 : 0 ≤ x) (_h1 : t * 128 + x % 128 ≤ 268435455) (h2 : x < 128) (h3 : t * 128 + x % 128 < 31) :
    rdTag true 0 xs = (0, 0, 3) := by
  rw [h.out, rdTag, if_neg (by simp; omega), if_neg (by omega), if_neg (by omega), if_pos (by omega)]
  simp [lift3]
theorem tag_end (h : Hid (rdTag true 0 xs = lift3 k (rdTag (decide (k = 0)) t (x :: xs.drop (k + 1))))) (h0 : 0 ≤ x) (h1 : t * 128 + x % 128 ≤ 268435455) (h2 : x < 128) (h3 : 31 ≤ t * 128 + x % 128) :
    rdTag true 0 xs = (t * 128 + x, 1 + (k : Int), 0) := by
  rw [h.out, rdTag, if_neg (by simp; omega), if_neg (by omega), if_neg (by omega), if_neg (by omega)]
  simp [lift3]
end

end Go.Proofs.Ytildhebaikeknaa

/-! Tlv2 -/
namespace Go.Proofs.Ytildhebaikeknaa
open Go.RowKit

def lfin (m : Nat) (r : Int × Int) : Int × Int × Int := if r.2 = 0 then (r.1, (m : Int) + 1, 0) else (0, 0, r.2)
def lbd (k : Nat) (t : Int) : Prop := 0 ≤ t ∧ t ≤ 4294967295 ∧ (k = 1 → t = 0) ∧ (k = 2 → t ≤ 255) ∧ (k = 3 → t ≤ 65535) ∧ (k = 4 → t ≤ 16777215)
section
variable {xs : List Int} {k m : Nat} {t x : Int}
theorem len_start (hx : xs ≠ []) (h0 : xs.getD 0 0 = 128 + (m : Int)) (h1 : 1 ≤ m) (h4 : m ≤ 4) : rdLen xs = lfin m (lenGo (decide (1 = 1)) (m + 1 - 1) 0 (xs.drop 1)) := by
  match xs, hx with
  | y :: r, _ =>
    have hy : y = 128 + (m : Int) := h0
    have e : (y - 128).toNat = m := by omega
    rw [rdLen, if_neg (by omega), if_neg (by omega), e]
    unfold lfin
    simp
    split <;> simp
    omega
theorem len_step (h : rdLen xs = lfin m (lenGo (decide (k = 1)) (m + 1 - k) t (xs.drop k))) (hx : x = xs.getD k 0) (hk : k < xs.length) (hm : k ≤ m) :
    rdLen xs = lfin m (lenGo (decide (k = 1)) (m - k + 1) t (x :: xs.drop (k + 1))) := by rw [h, drop_getD hx hk, show m + 1 - k = m - k + 1 by omega]
theorem len_zero (h : Hid (rdLen xs = lfin m (lenGo (decide (k = 1)) (m - k + 1) t (x :: xs.drop (k + 1))))) (h1 : k = 1) (h2 : x = 0) : rdLen xs = (0, 0, 4) := by
  rw [h.out, lenGo, if_pos (by simp [h1, h2])]; simp [lfin]
theorem len_on (h : Hid (rdLen xs = lfin m (lenGo (decide (k = 1)) (m - k + 1) t (x :: xs.drop (k + 1))))) (h1 : ¬ k = 1 ∨ ¬ x = 0) (h2 : 1 ≤ k) :
    Hid (rdLen xs = lfin m (lenGo (decide (k + 1 = 1)) (m + 1 - (k + 1)) (t * 256 + x) (xs.drop (k + 1)))) := by
  show _ = _
  have e : decide (k + 1 = 1) = false := by simp; omega
  rw [h.out, lenGo, if_neg (by simp; omega), e, show m + 1 - (k + 1) = m - k by omega]
theorem len_short (h : Hid (rdLen xs = lfin m (lenGo (decide (k = 1)) (m + 1 - k) t (xs.drop k)))) (h1 : k ≤ m) (h2 : xs.length ≤ k) : rdLen xs = (0, 0, 2) := by
  rw [h.out, List.drop_eq_nil_of_le h2, show m + 1 - k = m - k + 1 by omega, lenGo]; simp [lfin]
theorem len_end (h : Hid (rdLen xs = lfin m (lenGo (decide (k = 1)) (m + 1 - k) t (xs.drop k)))) (h1 : ¬ k ≤ m) : rdLen xs = if t > 2147483647 ∨ t < 128 then (0, 0, 4) else (t, (m : Int) + 1, 0) := by
  rw [h.out, show m + 1 - k = 0 by omega, lenGo]; unfold lfin; split <;> simp
end

end Go.Proofs.Ytildhebaikeknaa

/-! Tlv3 -/
namespace Go.Proofs.Ytildhebaikeknaa
open Go.RowKit

section
variable {x : Int} {r : List Int} {T N E L M F : Int}
theorem rd_long_bad (h : x % 32 = 31) (hT : rdTag true 0 r = (T, N, E)) (hE : E ≠ 0) : rd (x :: r) = (Hd.zero, E) := by
  simp [rd, h, hT, hE]
theorem rd_long_fin (h : x % 32 = 31) (hT : rdTag true 0 r = (T, N, 0)) (hL : rdLen (r.drop N.toNat) = (L, M, F)) : rd (x :: r) = if F = 0 then (⟨x / 64, T, decide (x / 32 % 2 = 1), L, 1 + N + M⟩, 0) else (Hd.zero, F) := by
  simp [rd, h, hT, rdFin, hL]
theorem rd_short_fin (h : ¬ x % 32 = 31) (hL : rdLen r = (L, M, F)) : rd (x :: r) = if F = 0 then (⟨x / 64, x % 32, decide (x / 32 % 2 = 1), L, 1 + M⟩, 0) else (Hd.zero, F) := by
  simp [rd, h, rdFin, hL]
end

end Go.Proofs.Ytildhebaikeknaa

/-! TlvOne -/
namespace Go.Proofs.Ytildhebaikeknaa
open Go.RowKit

theorem loadHead {c0 c1 c2 c3 c4 : Value} {B : Nat} {w : World} (h : Box 36 [c0, c1, c2, c3, c4] B w) :
    (loadVar 36 ⟨B, 0, none⟩).run Try.prog w = .ok (.agg #[c0, c1, c2, c3, c4]) w := by
  obtain ⟨k0, k1, k2, k3, k4⟩ := h.five
  simp [go_sem, k0, k1, k2, k3, k4]
theorem results_cell4 {fn : Func} {p u v x : Tmp} {ty : TypeId} (h : fn.results = #[.cell p ty, .tmp u, .tmp v, .tmp x]) (tmps : Array Value) (P : Program) (w : World) :
    (results fn tmps).run P w = ((asAddr (tmps.getD p undef)).run P w).andThen fun a w₁ => ((loadVar ty a).run P w₁).andThen fun y w₂ => .ok (.tuple #[y, tmps.getD u undef, tmps.getD v undef, tmps.getD x undef]) w₂ := by
  simp only [results, h]
  simp [Sem.run_bind, Result.andThen]
theorem asAddr_ptr (P : Program) (w : World) (a : Addr) : (asAddr (.pointer (some a))).run P w = .ok a w := by simp [asAddr]
theorem results_hd3 {fn : Func} {p u v x : Tmp} (h : fn.results = #[.cell p 36, .tmp u, .tmp v, .tmp x]) {tmps : Array Value} {B : Nat} (hp : tmps.getD p undef = .pointer (some ⟨B, 0, none⟩)) {w : World}
    {c0 c1 c2 c3 c4 : Value} (hb : Box 36 [c0, c1, c2, c3, c4] B w) :
    (results fn tmps).run Try.prog w = .ok (.tuple #[.agg #[c0, c1, c2, c3, c4], tmps.getD u undef, tmps.getD v undef, tmps.getD x undef]) w := by
  rw [results_cell4 h, hp, asAddr_ptr]
  simp only [Result.andThen]
  rw [loadHead hb]

theorem u8_of (xs : List Int) (h : xs.all (fun x => decide (0 ≤ x ∧ x ≤ 255)) = true) : U8 xs := fun x hx => by
  have := List.all_eq_true.1 h x hx
  simpa using this

theorem oneS_of {zs : List Int} {hd : Hd} (hr : rd zs = (hd, 0)) (h : hd.len ≤ zs.length - hd.size) : oneT zs = (hd, (zs.drop hd.size.toNat).take hd.len.toNat, zs.drop (hd.size + hd.len).toNat, 0) := by
  have e1 : ¬ ((rd zs).2 ≠ 0) := by rw [hr]; simp
  have e2 : ¬ ((rd zs).1.len > zs.length - (rd zs).1.size) := by rw [hr]; exact Int.not_lt.2 h
  unfold oneT
  rw [if_neg e1, if_neg e2, hr]
theorem results_cell2 {fn : Func} {p u : Tmp} {ty : TypeId} (h : fn.results = #[.cell p ty, .tmp u]) (tmps : Array Value) (P : Program) (w : World) :
    (results fn tmps).run P w = ((asAddr (tmps.getD p undef)).run P w).andThen fun a w₁ => ((loadVar ty a).run P w₁).andThen fun y w₂ => .ok (.tuple #[y, tmps.getD u undef]) w₂ := by
  simp only [results, h]
  simp [Sem.run_bind, Result.andThen]
theorem results_hd1 {fn : Func} {p u : Tmp} (h : fn.results = #[.cell p 36, .tmp u]) {tmps : Array Value} {B : Nat} (hp : tmps.getD p undef = .pointer (some ⟨B, 0, none⟩)) {w : World}
    {c0 c1 c2 c3 c4 : Value} (hb : Box 36 [c0, c1, c2, c3, c4] B w) :
    (results fn tmps).run Try.prog w = .ok (.tuple #[.agg #[c0, c1, c2, c3, c4], tmps.getD u undef]) w := by
  rw [results_cell2 h, hp, asAddr_ptr]
  simp only [Result.andThen]
  rw [loadHead hb]


end Go.Proofs.Ytildhebaikeknaa
