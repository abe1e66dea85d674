/- Several texts in one: Ref10a. -/
import Derived.Test.YtimbchkoomjhkaaPk17
import Derived.Test.YtimbchkoomjhkaaPk5
import Derived.Test.YtimbchkoomjhkaaPk36
import Derived.Test.YtimbchkoomjhkaaPk18
/-! Ref10a -/
namespace Go.Proofs.Ytimbchkoomjhkaa
open Go.RowKit

set_option maxHeartbeats 1000000 in
theorem refTwo10 (B : Nat) (a b : Int) (w : World) (h : TabsAt B w) (ha : I64n a) (hb : I64n b) : Calls Try.prog 54 #[.pointer (some ⟨B, 0, none⟩), .int .i64 a, .int .i64 b] w fun e w' => e = .returned (.tuple #[.int .i64 (twoS a b).1, .bool (twoS a b).2]) ∧ Below w.heap.size w w' := by
  have HJ := hid (fun w => refJoin7 a b w ha hb)
  have HP := hid (fun w h => refTPair B a b w h)
  have HT := hid h
  obtain ⟨R, hR⟩ : ∃ R, R = twoS a b := ⟨_, rfl⟩
  rw [← hR]
  unfold twoS at hR
  obtain ⟨J, hJ⟩ : ∃ J, J = joinS a b := ⟨_, rfl⟩
  rw [← hJ] at hR HJ
  obtain ⟨j, ok⟩ := J
  clear hJ h
  cases ok with
  | true =>
    have HR := hid (show R = (j, true) from hR)
    clear hR
    go_enter Try.func54, Try.ntmps54
    go_wp2_with (go_at_call 75; refine (HJ.out _).mono ?_; rintro e w1 ⟨rfl, rfl⟩)
    go_ret2
    exact ⟨by rw [HR.out]; rfl, Below.refl _ _⟩
  | false =>
    have HR := hid (show R = pairS a b from hR)
    rw [← HR.out] at HP
    clear hR
    go_enter Try.func54, Try.ntmps54
    go_wp2_with (first
      | (go_at_call 75; refine (HJ.out _).mono ?_; rintro e w1 ⟨rfl, rfl⟩)
      | (go_at_call 43; refine (HP.out _ HT.out).mono ?_; rintro e w2 ⟨rfl, hb2⟩))
    go_ret2
    exact ⟨rfl, hb2⟩
end Go.Proofs.Ytimbchkoomjhkaa
