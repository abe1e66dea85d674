/- Several texts in one: Ref11a. -/
import Derived.Test.YtidjjaginindoaaGreatPk20
import Derived.Test.YtidjjaginindoaaGreatPk27
import Derived.Test.YtidjjaginindoaaGreatPk28
import Derived.Test.YtidjjaginindoaaGreatPk14
import Derived.Test.YtidjjaginindoaaGreatPk23
/-! Ref11a -/
namespace Go.Proofs.YtidjjaginindoaaGreat
open Go.RowKit

set_option maxHeartbeats 1000000 in
theorem refApart11 (k : Bool) (B : Nat) (v : Value) (s : List Int) (w : World) (h : TabsAt B w) (hs : Sl .i64 w v s) (hf : FitsK k s) : Calls Tryz.prog 64 #[.pointer (some ⟨B, 0, none⟩), v, .bool k] w fun e w' => ∃ x, e = .returned x ∧ Own .i64 3 w.heap.size w' x (apartS k s) ∧ Below w.heap.size w w' := by
  have HT := hid h
  have H1 := hid (refEach8 k B v s w h hs hf.1 hf.2.1)
  have H2 := hid (fun v w ht h => refPut9 B v (allS k s) w ht h hf.2.2)
  obtain ⟨A, hA⟩ : ∃ A, A = apartS k s := ⟨_, rfl⟩
  rw [← hA]
  rw [show putO classS (allS k s) = A from hA.symm] at H2
  generalize allS k s = D at H1 H2
  clear hA h hs hf
  go_enter Tryz.func64, Tryz.ntmps64
  go_wp2_with (first
    | (go_at_call 89; refine H1.out.mono ?_; rintro e w1 ⟨v1, rfl, ho1, hb1⟩; have HO1 := hid ho1.sl; have HB1 := hid hb1; clear ho1 hb1)
    | (go_at_call 88; refine (H2.out v1 _ (HT.out.below HB1.out) HO1.out).mono ?_; rintro e w2 ⟨v2, rfl, ho2, hb2⟩; have HO2 := hid (ho2.mono HB1.out.size); have HB2 := hid (HB1.out.trans (hb2.mono HB1.out.size)); clear ho2 hb2))
  go_ret
  exact ⟨_, rfl, HO2.out, HB2.out⟩
set_option maxHeartbeats 1000000 in
theorem refForm11 (k : Bool) (B : Nat) (v : Value) (s : List Int) (w : World) (h : TabsAt B w) (hs : Sl .i64 w v s) (hf : FitsK k s) : Calls Tryz.prog 32 #[.pointer (some ⟨B, 0, none⟩), v, .bool k] w fun e w' => ∃ x, e = .returned x ∧ Own .i64 3 w.heap.size w' x (formS k s) ∧ Below w.heap.size w w' := by
  have HT := hid h
  have H1 := hid (refApart11 k B v s w h hs hf)
  have H2 := hid (fun v w ht h => refCompose10 B v (apartS k s) w ht h (apart_inI hf.1) (by rw [apart_len]; exact hf.2.2))
  obtain ⟨F, hF⟩ : ∃ F, F = formS k s := ⟨_, rfl⟩
  rw [← hF]
  rw [show compG classS twoS (apartS k s) = F from hF.symm] at H2
  generalize apartS k s = A at H1 H2
  clear hF h hs hf
  go_enter Tryz.func32, Tryz.ntmps32
  go_wp2_with (first
    | (go_at_call 64; refine H1.out.mono ?_; rintro e w1 ⟨v1, rfl, ho1, hb1⟩; have HO1 := hid ho1.sl; have HB1 := hid hb1; clear ho1 hb1)
    | (go_at_call 63; refine (H2.out v1 _ (HT.out.below HB1.out) HO1.out).mono ?_; rintro e w2 ⟨v2, rfl, ho2, hb2⟩; have HO2 := hid (ho2.mono HB1.out.size); have HB2 := hid (HB1.out.trans (hb2.mono HB1.out.size)); clear ho2 hb2))
  go_ret
  exact ⟨_, rfl, HO2.out, HB2.out⟩
end Go.Proofs.YtidjjaginindoaaGreat
