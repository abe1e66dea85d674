/- Several texts in one: CsOk. -/
import Derived.Test.YtniooeohklblhaaPk17
/-! CsOk -/
namespace Go.Proofs.Ytniooeohklblhaa
open Go.RowKit

def CWideOk : Prop := ∀ (s : Int) (w : World), Calls Try.prog 18 #[.int .i64 s] w fun e w' => e = .returned (.bool (s == 87)) ∧ Below w.heap.size w w'
def CGetOk : Prop := ∀ (s p : Int) (w : World), inI s = true → inI p = true → Calls Try.prog 8 #[.int .i64 s, .int .i64 p] w fun e w' => e = .returned (.tuple #[.int .i64 (getS16 s p).1, .bool (getS16 s p).2]) ∧ Below w.heap.size w w'
def CFindOk : Prop := ∀ (s c : Int) (w : World), inI s = true → inI c = true → Calls Try.prog 10 #[.int .i64 s, .int .i64 c] w fun e w' => e = .returned (.tuple #[.int .i64 (findS16 s c).1, .bool (findS16 s c).2]) ∧ Below w.heap.size w w'
def CByFinalOk : Prop := ∀ (f : Int) (wide : Bool) (w : World), inI f = true → Calls Try.prog 12 #[.int .i64 f, .bool wide] w fun e w' => e = .returned (.tuple #[.int .i64 (byFinS f wide).1, .bool (byFinS f wide).2]) ∧ Below w.heap.size w w'
def CMarkOk : Prop := ∀ (p : Int) (w : World), inI p = true → Calls Try.prog 14 #[.int .i64 p] w fun e w' => e = .returned (.tuple #[.int .i64 (markS p).1, .int .i64 (markS p).2.1, .bool (markS p).2.2]) ∧ Below w.heap.size w w'
def CAccentOk : Prop := ∀ (c : Int) (w : World), inI c = true → Calls Try.prog 16 #[.int .i64 c] w fun e w' => e = .returned (.tuple #[.int .i64 (accS c).1, .int .i64 (accS c).2.1, .bool (accS c).2.2]) ∧ Below w.heap.size w w'
structure CsAll : Prop where
  wide : CWideOk
  get : CGetOk
  find : CFindOk
  fin : CByFinalOk
  mark : CMarkOk
  acc : CAccentOk
theorem w16_acc : accS 192 = (65, 65, true) := by decide +kernel
theorem w16_get : getS16 144 48 = (1040, true) := by decide +kernel
theorem w16_find : findS16 126 913 = (65, true) := by decide +kernel
theorem w16_fin : byFinS 70 false = (126, true) := by decide +kernel

set_option maxHeartbeats 4000000 in
theorem lawWakes16 (H : CsAll) (w : World) : Calls Try.prog 20 #[] w fun e w' => e = .returned (.bool true) ∧ Below w.heap.size w w' := by
  have H1 := hid (fun w => H.acc 192 w (by decide))
  rw [w16_acc] at H1
  have H2 := hid (fun w => H.get 144 48 w (by decide) (by decide))
  rw [w16_get] at H2
  have H3 := hid (fun w => H.find 126 913 w (by decide) (by decide))
  rw [w16_find] at H3
  have H4 := hid (fun w => H.fin 70 false w (by decide))
  rw [w16_fin] at H4
  have H5 := hid (fun w => H.wide 87 w)
  have H6 := hid (fun w => H.wide 6 w)
  have HB0 := hid (Below.refl w.heap.size w)
  clear H
  go_enter Try.func20, Try.ntmps20
  go_wp2_with (first
    | (have _u := HB5; clear _u; go_at_call 18; with_reducible refine (H6.out _).mono ?_; rintro e w6 ⟨rfl, hb6⟩; have HB6 := hid (HB5.out.trans (hb6.mono HB5.out.size)); clear hb6)
    | (have _u := HB4; clear _u; go_at_call 18; with_reducible refine (H5.out _).mono ?_; rintro e w5 ⟨rfl, hb5⟩; have HB5 := hid (HB4.out.trans (hb5.mono HB4.out.size)); clear hb5)
    | (have _u := HB3; clear _u; go_at_call 12; with_reducible refine (H4.out _).mono ?_; rintro e w4 ⟨rfl, hb4⟩; have HB4 := hid (HB3.out.trans (hb4.mono HB3.out.size)); clear hb4)
    | (have _u := HB2; clear _u; go_at_call 10; with_reducible refine (H3.out _).mono ?_; rintro e w3 ⟨rfl, hb3⟩; have HB3 := hid (HB2.out.trans (hb3.mono HB2.out.size)); clear hb3)
    | (have _u := HB1; clear _u; go_at_call 8; with_reducible refine (H2.out _).mono ?_; rintro e w2 ⟨rfl, hb2⟩; have HB2 := hid (HB1.out.trans (hb2.mono HB1.out.size)); clear hb2)
    | (have _u := HB0; clear _u; go_at_call 16; with_reducible refine (H1.out _).mono ?_; rintro e w1 ⟨rfl, hb1⟩; have HB1 := hid (HB0.out.trans (hb1.mono HB0.out.size)); clear hb1))
  go_ret
  exact ⟨rfl, HB6.out⟩
end Go.Proofs.Ytniooeohklblhaa
