/- Contract of package sets' Compare: it answers the order of two byte strings and changes nothing. -/
import Derived.Test.YtgdbjbkmkdkhhaaSetsAt
import Derived.Test.YtgdbjbkmkdkhhaaKeep
import Derived.Lib.BytesEntry
namespace Go.Proofs.Ytgdbjbkmkdkhhaa
open Go.RowKit

theorem u8_lt {x y : Int} (hx : 0 ≤ x ∧ x ≤ 255) (hy : 0 ≤ y ∧ y ≤ 255) : (UInt8.ofNat x.toNat < UInt8.ofNat y.toNat) ↔ x < y := by
  rw [UInt8.lt_iff_toNat_lt, UInt8.toNat_ofNat', UInt8.toNat_ofNat']
  omega
theorem cmp_bytes : ∀ (xs ys : List Int), U8 xs → U8 ys → Lib.compareBytes (Lib.bytesOf xs) (Lib.bytesOf ys) = cmpS xs ys
  | [], [], _, _ => rfl
  | [], _ :: _, _, _ => rfl
  | _ :: _, [], _, _ => rfl
  | x :: xs, y :: ys, hx, hy => by
    have ih := cmp_bytes xs ys hx.tail hy.tail
    have e1 := u8_lt hx.head hy.head
    have e2 := u8_lt hy.head hx.head
    show (if UInt8.ofNat x.toNat < UInt8.ofNat y.toNat then -1 else if UInt8.ofNat y.toNat < UInt8.ofNat x.toNat then 1 else Lib.compareBytes (Lib.bytesOf xs) (Lib.bytesOf ys)) = _
    rw [cmpS, ih]
    simp only [e1, e2]
theorem run_bytesOf {P : Program} {w : World} {v : Value} {xs : List Int} (h : Sl .u8 w v xs) : (Extern.Bytes.bytesOf v).run P w = .ok ⟨(Lib.bytesOf xs).toArray⟩ w := by
  obtain ⟨a, cap, rfl, h1, h2, h3⟩ := h
  rcases h3 with rfl | ⟨b, off, rfl, -, hc⟩
  · have hx : xs = [] := List.eq_nil_of_length_eq_zero (by omega)
    subst hx
    cases a <;> rfl
  · have hl := Lib.run_loadBytesX (P := P) w xs ⟨b, off, none⟩ .empty (fun j x hj => by
      have hjl : j < xs.length := (List.getElem?_eq_some_iff.1 hj).1
      have e : (⟨b, off, none⟩ : Addr).add j = ⟨b, off + j, none⟩ := by unfold Addr.add; split <;> simp_all
      rw [e, hc j hjl, List.getD_eq_getElem?_getD, hj]
      rfl)
    have he : (⟨ByteArray.empty.data ++ (Lib.bytesOf xs).toArray⟩ : ByteArray) = ⟨(Lib.bytesOf xs).toArray⟩ := by
      apply ByteArray.ext
      show (#[] : Array UInt8) ++ (Lib.bytesOf xs).toArray = (Lib.bytesOf xs).toArray
      simp
    rw [he] at hl
    exact hl
theorem run_compare {P : Program} {w : World} {v1 v2 : Value} {xs ys : List Int} (h1 : Sl .u8 w v1 xs) (h2 : Sl .u8 w v2 ys) (u1 : U8 xs) (u2 : U8 ys) :
    (Extern.BytealgCompare.compare #[v1, v2]).run P w = .ok (.int .i64 (cmpS xs ys)) w := by
  change Sem.run P (do pure (goInt (Extern.BytealgCompare.cmp (← Extern.Bytes.bytesOf v1) (← Extern.Bytes.bytesOf v2)))) w = _
  simp only [Sem.run_bind, Sem.run_pure, run_bytesOf h1, run_bytesOf h2, Result.andThen]
  rw [Lib.cmp_eq, ← cmp_bytes xs ys u1 u2]
  rfl

theorem bytesCompare (v1 v2 : Value) (xs ys : List Int) (w : World) (h1 : Sl .u8 w v1 xs) (h2 : Sl .u8 w v2 ys) (u1 : U8 xs) (u2 : U8 ys) :
    Calls Try.prog 27 #[v1, v2] w fun e w' => e = .returned (.int .i64 (cmpS xs ys)) ∧ w = w' := by
  have hcall : (callFunc 29 #[v1, v2]).run Try.prog w = .ok (.value (.int .i64 (cmpS xs ys))) w := by
    rw [run_callFunc_extern Try.func29 (by kernel_rfl) (by kernel_rfl) (by kernel_rfl) (e := Extern.BytealgCompare.compare) (by kernel_rfl), run_compare h1 h2 u1 u2]
    rfl
  clear h1 h2 u1 u2
  go_enter Try.func27, Try.ntmps27
  go_wp2
  go_ret
  exact ⟨rfl, rfl⟩
theorem setsCompare (v1 v2 : Value) (xs ys : List Int) (w : World) (h1 : Sl .u8 w v1 xs) (h2 : Sl .u8 w v2 ys) (u1 : U8 xs) (u2 : U8 ys) :
    Calls Try.prog 15 #[v1, v2] w fun e w' => e = .returned (.int .i64 (cmpS xs ys)) ∧ w = w' := by
  go_enter Try.func15, Try.ntmps15
  go_wp2_with (go_at_call 27; refine (bytesCompare v1 v2 xs ys w h1 h2 u1 u2).mono ?_; rintro e w' ⟨rfl, rfl⟩)
  go_ret
  exact ⟨rfl, rfl⟩
end Go.Proofs.Ytgdbjbkmkdkhhaa
