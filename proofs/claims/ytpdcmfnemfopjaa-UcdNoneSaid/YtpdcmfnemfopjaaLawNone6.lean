/- Walk of law06's UcdNone: what is no scalar is nothing. -/
import Derived.Test.YtpdcmfnemfopjaaUcdWakes
import Derived.Test.YtpdcmfnemfopjaaIx
namespace Go.Proofs.Ytpdcmfnemfopjaa
open Go.RowKit

theorem none_all {c : Int} (h : scalarB c = false) : (∀ l, hasS l c = false) ∧ classS c = 0 ∧ canonS c = [] ∧ (∀ l, mapS l c = []) :=
  ⟨fun _ => (hasS_f h).symm, (classS_f h).symm, (canonS_f h).symm, fun _ => (mapS_f h).symm⟩

set_option maxHeartbeats 4000000 in
theorem walkNone6 (n how : Int) (w : World) :
    Calls Try.prog 7 #[.int .i64 n, .int .i64 how] w fun e w' => e = .returned (.bool true) ∧ Below w.heap.size w w' := by
  obtain ⟨a0, a1⟩ := ixr n 2048 (by decide) (by decide)
  obtain ⟨b0, b1⟩ := ixr n 100000 (by decide) (by decide)
  have HM := hid (ixr' how 3 (by decide))
  go_enter Try.func7, Try.ntmps7
  go_upto_region 3 with (fail)
  obtain ⟨m0, m1⟩ := HM.out
  clear HM
  generalize hMM : (IntKind.u64.wrap how).tmod 3 = M at m0 m1 ⊢
  generalize wrap64 ((IntKind.u64.wrap n).tmod 2048) = A at a0 a1 ⊢
  have hM : M = 0 ∨ M = 1 ∨ M = 2 := by omega
  clear m0 m1 hMM
  rcases hM with rfl | rfl | rfl
  · go_upto_region 7 with (fail)
    have hs : scalarB (55296 + A) = false := scalar_f (fun h => by omega)
    generalize 55296 + A = c at hs ⊢
    obtain ⟨hh, hc, hn, hm⟩ := none_all hs
    have HS := hid hs
    have HA := hid (fun w => ucdAssigned c w)
    have HB := hid (fun w => ucdNothing c w)
    have HC := hid (fun w => ucdSpace c w)
    have HD := hid (fun w => ucdProhibited c w)
    rw [hh] at HA HB HC HD
    have HE := hid (fun w => ucdClass c w)
    rw [hc] at HE
    have HF := hid (fun w => ucdCanon c w)
    rw [hn] at HF
    have HG := hid (fun w => ucdCompat c w)
    have HH := hid (fun w => ucdFold c w)
    rw [hm] at HG HH
    clear hs hh hc hn hm
    go_wp2_with (first
      | (go_at_call 11; refine (ucdScalar c _).mono ?_; rw [HS.out]; rintro e w0 ⟨rfl, rfl⟩)
      | (go_at_call 15; refine (HA.out _).mono ?_; rintro e w1 ⟨rfl, hb1⟩; have HB1 := hid hb1; clear hb1)
      | (go_at_call 17; refine (HB.out _).mono ?_; rintro e w2 ⟨rfl, hb2⟩; have HB2 := hid (HB1.out.trans (hb2.mono HB1.out.size)); clear hb2)
      | (go_at_call 19; refine (HC.out _).mono ?_; rintro e w3 ⟨rfl, hb3⟩; have HB3 := hid (HB2.out.trans (hb3.mono HB2.out.size)); clear hb3)
      | (go_at_call 21; refine (HD.out _).mono ?_; rintro e w4 ⟨rfl, hb4⟩; have HB4 := hid (HB3.out.trans (hb4.mono HB3.out.size)); clear hb4)
      | (go_at_call 13; refine (HE.out _).mono ?_; rintro e w5 ⟨rfl, hb5⟩; have HB5 := hid (HB4.out.trans (hb5.mono HB4.out.size)); clear hb5)
      | (go_at_call 24; refine (HF.out _).mono ?_; rintro e w6 ⟨v6, rfl, ho6, hb6⟩; obtain ⟨a6, c6, rfl⟩ := ho6.form; have HB6 := hid (HB5.out.trans (hb6.mono HB5.out.size)); clear ho6 hb6)
      | (go_at_call 26; refine (HG.out _).mono ?_; rintro e w7 ⟨v7, rfl, ho7, hb7⟩; obtain ⟨a7, c7, rfl⟩ := ho7.form; have HB7 := hid (HB6.out.trans (hb7.mono HB6.out.size)); clear ho7 hb7)
      | (go_at_call 28; refine (HH.out _).mono ?_; rintro e w8 ⟨v8, rfl, ho8, hb8⟩; obtain ⟨a8, c8, rfl⟩ := ho8.form; have HB8 := hid (HB7.out.trans (hb8.mono HB7.out.size)); clear ho8 hb8)
      | (go_at_call 30; refine (lawWakes6 _).mono ?_; rintro e w9 ⟨rfl, hb9⟩; have HB9 := hid (HB8.out.trans (hb9.mono HB8.out.size)); clear hb9))
    go_ret
    exact ⟨rfl, HB9.out⟩
  · go_upto_region 7 with (fail)
    generalize wrap64 ((IntKind.u64.wrap n).tmod 100000) = B at b0 b1 ⊢
    have hs : scalarB (1114112 + B) = false := scalar_f (fun h => by omega)
    generalize 1114112 + B = c at hs ⊢
    obtain ⟨hh, hc, hn, hm⟩ := none_all hs
    have HS := hid hs
    have HA := hid (fun w => ucdAssigned c w)
    have HB := hid (fun w => ucdNothing c w)
    have HC := hid (fun w => ucdSpace c w)
    have HD := hid (fun w => ucdProhibited c w)
    rw [hh] at HA HB HC HD
    have HE := hid (fun w => ucdClass c w)
    rw [hc] at HE
    have HF := hid (fun w => ucdCanon c w)
    rw [hn] at HF
    have HG := hid (fun w => ucdCompat c w)
    have HH := hid (fun w => ucdFold c w)
    rw [hm] at HG HH
    clear hs hh hc hn hm
    go_wp2_with (first
      | (go_at_call 11; refine (ucdScalar c _).mono ?_; rw [HS.out]; rintro e w0 ⟨rfl, rfl⟩)
      | (go_at_call 15; refine (HA.out _).mono ?_; rintro e w1 ⟨rfl, hb1⟩; have HB1 := hid hb1; clear hb1)
      | (go_at_call 17; refine (HB.out _).mono ?_; rintro e w2 ⟨rfl, hb2⟩; have HB2 := hid (HB1.out.trans (hb2.mono HB1.out.size)); clear hb2)
      | (go_at_call 19; refine (HC.out _).mono ?_; rintro e w3 ⟨rfl, hb3⟩; have HB3 := hid (HB2.out.trans (hb3.mono HB2.out.size)); clear hb3)
      | (go_at_call 21; refine (HD.out _).mono ?_; rintro e w4 ⟨rfl, hb4⟩; have HB4 := hid (HB3.out.trans (hb4.mono HB3.out.size)); clear hb4)
      | (go_at_call 13; refine (HE.out _).mono ?_; rintro e w5 ⟨rfl, hb5⟩; have HB5 := hid (HB4.out.trans (hb5.mono HB4.out.size)); clear hb5)
      | (go_at_call 24; refine (HF.out _).mono ?_; rintro e w6 ⟨v6, rfl, ho6, hb6⟩; obtain ⟨a6, c6, rfl⟩ := ho6.form; have HB6 := hid (HB5.out.trans (hb6.mono HB5.out.size)); clear ho6 hb6)
      | (go_at_call 26; refine (HG.out _).mono ?_; rintro e w7 ⟨v7, rfl, ho7, hb7⟩; obtain ⟨a7, c7, rfl⟩ := ho7.form; have HB7 := hid (HB6.out.trans (hb7.mono HB6.out.size)); clear ho7 hb7)
      | (go_at_call 28; refine (HH.out _).mono ?_; rintro e w8 ⟨v8, rfl, ho8, hb8⟩; obtain ⟨a8, c8, rfl⟩ := ho8.form; have HB8 := hid (HB7.out.trans (hb8.mono HB7.out.size)); clear ho8 hb8)
      | (go_at_call 30; refine (lawWakes6 _).mono ?_; rintro e w9 ⟨rfl, hb9⟩; have HB9 := hid (HB8.out.trans (hb9.mono HB8.out.size)); clear hb9))
    go_ret
    exact ⟨rfl, HB9.out⟩
  · go_upto_region 7 with (fail)
    generalize wrap64 ((IntKind.u64.wrap n).tmod 100000) = B at b0 b1 ⊢
    have hs : scalarB (-1 - B) = false := scalar_f (fun h => by omega)
    generalize -1 - B = c at hs ⊢
    obtain ⟨hh, hc, hn, hm⟩ := none_all hs
    have HS := hid hs
    have HA := hid (fun w => ucdAssigned c w)
    have HB := hid (fun w => ucdNothing c w)
    have HC := hid (fun w => ucdSpace c w)
    have HD := hid (fun w => ucdProhibited c w)
    rw [hh] at HA HB HC HD
    have HE := hid (fun w => ucdClass c w)
    rw [hc] at HE
    have HF := hid (fun w => ucdCanon c w)
    rw [hn] at HF
    have HG := hid (fun w => ucdCompat c w)
    have HH := hid (fun w => ucdFold c w)
    rw [hm] at HG HH
    clear hs hh hc hn hm
    go_wp2_with (first
      | (go_at_call 11; refine (ucdScalar c _).mono ?_; rw [HS.out]; rintro e w0 ⟨rfl, rfl⟩)
      | (go_at_call 15; refine (HA.out _).mono ?_; rintro e w1 ⟨rfl, hb1⟩; have HB1 := hid hb1; clear hb1)
      | (go_at_call 17; refine (HB.out _).mono ?_; rintro e w2 ⟨rfl, hb2⟩; have HB2 := hid (HB1.out.trans (hb2.mono HB1.out.size)); clear hb2)
      | (go_at_call 19; refine (HC.out _).mono ?_; rintro e w3 ⟨rfl, hb3⟩; have HB3 := hid (HB2.out.trans (hb3.mono HB2.out.size)); clear hb3)
      | (go_at_call 21; refine (HD.out _).mono ?_; rintro e w4 ⟨rfl, hb4⟩; have HB4 := hid (HB3.out.trans (hb4.mono HB3.out.size)); clear hb4)
      | (go_at_call 13; refine (HE.out _).mono ?_; rintro e w5 ⟨rfl, hb5⟩; have HB5 := hid (HB4.out.trans (hb5.mono HB4.out.size)); clear hb5)
      | (go_at_call 24; refine (HF.out _).mono ?_; rintro e w6 ⟨v6, rfl, ho6, hb6⟩; obtain ⟨a6, c6, rfl⟩ := ho6.form; have HB6 := hid (HB5.out.trans (hb6.mono HB5.out.size)); clear ho6 hb6)
      | (go_at_call 26; refine (HG.out _).mono ?_; rintro e w7 ⟨v7, rfl, ho7, hb7⟩; obtain ⟨a7, c7, rfl⟩ := ho7.form; have HB7 := hid (HB6.out.trans (hb7.mono HB6.out.size)); clear ho7 hb7)
      | (go_at_call 28; refine (HH.out _).mono ?_; rintro e w8 ⟨v8, rfl, ho8, hb8⟩; obtain ⟨a8, c8, rfl⟩ := ho8.form; have HB8 := hid (HB7.out.trans (hb8.mono HB7.out.size)); clear ho8 hb8)
      | (go_at_call 30; refine (lawWakes6 _).mono ?_; rintro e w9 ⟨rfl, hb9⟩; have HB9 := hid (HB8.out.trans (hb9.mono HB8.out.size)); clear hb9))
    go_ret
    exact ⟨rfl, HB9.out⟩
end Go.Proofs.Ytpdcmfnemfopjaa
