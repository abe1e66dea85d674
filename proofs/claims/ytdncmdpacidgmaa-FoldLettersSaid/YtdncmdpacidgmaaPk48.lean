/- Several texts in one: Nrm11a. -/
import Derived.Test.YtdncmdpacidgmaaPk35
import Derived.Test.YtdncmdpacidgmaaPk41
import Derived.Test.YtdncmdpacidgmaaPk33
import Derived.Test.YtdncmdpacidgmaaPk47
/-! Nrm11a -/
namespace Go.Proofs.Ytdncmdpacidgmaa
open Go.RowKit

set_option maxHeartbeats 1000000 in
theorem normApart : NApartOk := fun k v s w h hf => by
  have H1 := hid (allDec k v s w h hf.1 hf.2.1)
  have H2 := hid (fun v w h => orderPut v (allS k s) w h hf.2.2)
  obtain ⟨A, hA⟩ : ∃ A, A = apartS k s := ⟨_, rfl⟩
  rw [← hA]
  rw [show putG classS (allS k s) = A from hA.symm] at H2
  generalize allS k s = D at H1 H2
  clear hA h hf
  go_enter Try.func31, Try.ntmps31
  go_wp2_with (first
    | (go_at_call 46; refine H1.out.mono ?_; rintro e w1 ⟨v1, rfl, ho1, hb1⟩; have HO1 := hid ho1.sl; have HB1 := hid hb1; clear ho1 hb1)
    | (go_at_call 45; refine (H2.out v1 _ HO1.out).mono ?_; rintro e w2 ⟨v2, rfl, ho2, hb2⟩; have HO2 := hid (ho2.mono HB1.out.size); have HB2 := hid (HB1.out.trans (hb2.mono HB1.out.size)); clear ho2 hb2))
  go_ret
  exact ⟨_, rfl, HO2.out, HB2.out⟩
set_option maxHeartbeats 1000000 in
theorem normForm : NFormOk := fun k v s w h hf => by
  have H1 := hid (normApart k v s w h hf)
  have H2 := hid (fun v w h => compAll v (apartS k s) w h (apart_inI hf.1) (by rw [apart_len]; exact hf.2.2))
  obtain ⟨F, hF⟩ : ∃ F, F = formS k s := ⟨_, rfl⟩
  rw [← hF]
  rw [show compG classS twoS (apartS k s) = F from hF.symm] at H2
  generalize apartS k s = A at H1 H2
  clear hF h hf
  go_enter Try.func17, Try.ntmps17
  go_wp2_with (first
    | (go_at_call 31; refine H1.out.mono ?_; rintro e w1 ⟨v1, rfl, ho1, hb1⟩; have HO1 := hid ho1.sl; have HB1 := hid hb1; clear ho1 hb1)
    | (go_at_call 30; refine (H2.out v1 _ HO1.out).mono ?_; rintro e w2 ⟨v2, rfl, ho2, hb2⟩; have HO2 := hid (ho2.mono HB1.out.size); have HB2 := hid (HB1.out.trans (hb2.mono HB1.out.size)); clear ho2 hb2))
  go_ret
  exact ⟨_, rfl, HO2.out, HB2.out⟩
end Go.Proofs.Ytdncmdpacidgmaa
