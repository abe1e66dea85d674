/- Contract of law05's waking check: it answers true and leaves what was there as it was. -/
import Derived.Test.YtlngnmcflooccaaRng5
import Derived.Test.YtlngnmcflooccaaRng8
import Derived.Test.YtlngnmcflooccaaRngFacts
namespace Go.Proofs.Ytlngnmcflooccaa
open Go.RowKit

theorem lit_sg {w : World} {f t v : Int} {e : TypeId} {n : Nat} (hn : n = w.heap.size) : Sg (w.alloc (.cells #[.int .i64 f, .int .i64 t, .int .i64 v] e)) (.slice (some ⟨n, 0, none⟩) 1 1) [⟨f, t, v⟩] := by
  subst hn
  have hb := Box.made w e [.int .i64 f, .int .i64 t, .int .i64 v]
  refine ⟨_, 1, rfl, Nat.le_refl _, by unfold maxLen; omega, .inr ⟨w.heap.size, 0, rfl, fun _ => by simp, fun i hi => ?_⟩⟩
  simp only [List.length_cons, List.length_nil] at hi
  obtain rfl : i = 0 := by omega
  exact ⟨hb.cell 0, hb.cell 1, hb.cell 2⟩
/-- a right table, packed: both rows -/
structure Pkd (L : List Rg) (B : Nat) (w : World) (v1 v2 : Value) (n : Nat) : Prop where
  ix : Own .i64 3 B w v1 (nats (packN (tabG L) 4352).1)
  bl : Own .i64 3 B w v2 (packN (tabG L) 4352).2.flatten
  len : (packN (tabG L) 4352).2.flatten.length = n
theorem RPk.out {L : List Rg} {B : Nat} {w' : World} {v1 v2 : Value} {en : Int} (h : RPk L B w' v1 v2 en) (hf : flatS L = true) : en = 0 ∧ Own .i64 3 B w' v1 (nats (packN (tabG L) 4352).1) ∧ Own .i64 3 B w' v2 (packN (tabG L) 4352).2.flatten := by
  unfold RPk at h
  rwa [if_pos hf] at h
theorem RPk.out2 {L : List Rg} {B : Nat} {w' : World} {v1 v2 : Value} {en : Int} (h : RPk L B w' v1 v2 en) (hf : flatS L = false) : en = 1 ∧ v1 = .slice none 0 0 ∧ v2 = .slice none 0 0 := by
  unfold RPk at h
  rwa [if_neg (by rw [hf]; exact Bool.false_ne_true)] at h
theorem pack_ixlen (L : List Rg) : (nats (packN (tabG L) 4352).1).length = 4352 := by rw [nats_len, (packN_ok _ _).len]
theorem pack_bllen (L : List Rg) : (packN (tabG L) 4352).2.flatten.length ≤ 1114112 := by
  rw [flat_len (packN_ok _ _).each]
  have := pack_count (tabG L) 4352
  omega
theorem RUnp.out {ix bl : List Int} {B : Nat} {w' : World} {v' : Value} {en : Int} {l : List Rg} (h : RUnp ix bl B w' v' en) (hu : unpackS ix bl = some l) : en = 0 ∧ OwnG 43 B w' v' l := by
  unfold RUnp at h
  rw [hu] at h
  exact h

set_option maxHeartbeats 4000000 in
set_option maxRecDepth 100000 in
theorem lawWakes5 (w : World) : Calls Try.prog 18 #[] w fun e w' => e = .returned (.bool true) ∧ Below w.heap.size w w' := by
  have hp := rngPack (.slice (some ⟨w.heap.size, 0, none⟩) 1 1) wk5 (w.alloc (.cells #[.int .i64 300, .int .i64 301, .int .i64 7] 43)) (lit_sg rfl)
  have HP : Hid (Calls Try.prog 7 #[.slice (some ⟨w.heap.size, 0, none⟩) 1 1] (w.alloc (.cells #[.int .i64 300, .int .i64 301, .int .i64 7] 43)) fun e w' => ∃ a1 c1 a2 c2, e = .returned (.tuple #[.agg #[.slice a1 4352 c1, .slice a2 512 c2], .int .i64 0]) ∧
      (Own .i64 3 (w.heap.size + 1) w' (.slice a1 4352 c1) (nats (packN (tabG wk5) 4352).1) ∧ Own .i64 3 (w.heap.size + 1) w' (.slice a2 512 c2) (packN (tabG wk5) 4352).2.flatten) ∧ Below w.heap.size w w') := hid (by
    refine hp.mono ?_
    rintro e w' ⟨v1, v2, en, rfl, hr, hb⟩
    obtain ⟨rfl, h1, h2⟩ := hr.out wk5_flat
    obtain ⟨a1, c1, e1⟩ := h1.sl.form
    obtain ⟨a2, c2, e2⟩ := h2.sl.form
    rw [pack_ixlen] at e1
    rw [wk5_flen] at e2
    subst e1 e2
    have hs : (w.alloc (.cells #[.int .i64 300, .int .i64 301, .int .i64 7] 43)).heap.size = w.heap.size + 1 := by simp
    rw [hs] at h1 h2 hb
    exact ⟨a1, c1, a2, c2, rfl, ⟨h1, h2⟩, ((Below.refl w.heap.size w).alloc (Nat.le_refl _) _).trans (hb.mono (by omega))⟩)
  obtain ⟨ix, hix⟩ : ∃ ix, ix = nats (packN (tabG wk5) 4352).1 := ⟨_, rfl⟩
  obtain ⟨bl, hbl⟩ : ∃ bl, bl = (packN (tabG wk5) 4352).2.flatten := ⟨_, rfl⟩
  have HU := hid (unp_few wk5_ok (by decide))
  have HG1 := hid (show getS (nats (packN (tabG wk5) 4352).1) (packN (tabG wk5) 4352).2.flatten 300 = 7 from (getS_all wk5_ok 300).trans (by decide))
  have HG2 := hid (show getS (nats (packN (tabG wk5) 4352).1) (packN (tabG wk5) 4352).2.flatten 302 = 0 from (getS_all wk5_ok 302).trans (by decide))
  have hl1 : Hid (ix.length ≤ 10000) := hid (by rw [hix, pack_ixlen]; omega)
  have hl2 : Hid (bl.length ≤ 10000000) := hid (by rw [hbl, wk5_flen]; omega)
  rw [← hix, ← hbl] at HP HU HG1 HG2
  clear hp hix hbl
  go_enter Try.func18, Try.ntmps18
  go_wp2_with (first
    | (go_at_call 7; refine HP.out.mono ?_; rintro e w2 ⟨a1, c1, a2, c2, rfl, ⟨ho1, ho2⟩, hb2⟩; have HO1 := hid (ho1.sl.below ((Below.refl w2.heap.size w2).alloc (Nat.le_refl _) (.cells #[.slice a1 4352 c1, .slice a2 512 c2] 25))); have HO2 := hid (ho2.sl.below ((Below.refl w2.heap.size w2).alloc (Nat.le_refl _) (.cells #[.slice a1 4352 c1, .slice a2 512 c2] 25))); have HST := hid (Box.made w2 25 [.slice a1 4352 c1, .slice a2 512 c2]); have HB2 := hid (hb2.alloc hb2.size (.cells #[.slice a1 4352 c1, .slice a2 512 c2] 25)); clear ho1 ho2 hb2)
    | (go_at_call 8; refine (rngUnpack _ _ ix bl _ HO1.out HO2.out ⟨hl1.out, hl2.out⟩).mono ?_; rintro e w4 ⟨v4, en4, rfl, hr4, hb4⟩; obtain ⟨rfl, ho4⟩ := hr4.out HU.out; obtain ⟨g4, c4, hv4, -, hgl4, ht4, -, -⟩ := ho4.open_ (i := 0) (by rw [wk5_few.1]; omega); rw [wk5_few.1] at hv4; rw [wk5_few.2] at ht4; simp only [Nat.zero_mul, Nat.zero_add] at ht4; subst hv4; have HGL := hid hgl4; have HST4 := hid (HST.out.below hb4 HST.out.lt); have HO14 := hid (HO1.out.below hb4); have HO24 := hid (HO2.out.below hb4); have HB4 := hid (HB2.out.trans (hb4.mono HB2.out.size)); have p0 := HST4.out.cell 0; have p1 := HST4.out.cell 1; simp only [List.getElem?_cons_zero, List.getElem?_cons_succ] at p0 p1; clear hr4 hb4 ho4)
    | (go_at_call 11; refine (rngGet _ _ ix bl 302 w5 HO15.out HO25.out).mono ?_; rw [HG2.out]; rintro e w6 ⟨rfl, hb6⟩; have HST6 := hid (HST5.out.below hb6 HST5.out.lt); have HB6 := hid (HB5.out.trans (hb6.mono HB5.out.size)); have t6 := (hb6.cell (p := ⟨g4, 1, none⟩) HGL5.out).trans t5; have r0 := HST6.out.cell 0; have r1 := HST6.out.cell 1; simp only [List.getElem?_cons_zero, List.getElem?_cons_succ] at r0 r1; clear hb6)
    | (go_at_call 11; refine (rngGet _ _ ix bl 300 w4 HO14.out HO24.out).mono ?_; rw [HG1.out]; rintro e w5 ⟨rfl, hb5⟩; have HST5 := hid (HST4.out.below hb5 HST4.out.lt); have HO15 := hid (HO14.out.below hb5); have HO25 := hid (HO24.out.below hb5); have HB5 := hid (HB4.out.trans (hb5.mono HB4.out.size)); have HGL5 := hid (Nat.lt_of_lt_of_le HGL.out hb5.size); have t5 := (hb5.cell (p := ⟨g4, 1, none⟩) HGL.out).trans ht4; have q0 := HST5.out.cell 0; have q1 := HST5.out.cell 1; simp only [List.getElem?_cons_zero, List.getElem?_cons_succ] at q0 q1; clear hb5)
    | (go_at_call 16; refine (rngCheck _ [⟨0, 0, 0⟩] _ (lit_sg rfl)).mono ?_; rw [show chkE [⟨0, 0, 0⟩] = 1 by decide]; rintro e w7 ⟨rfl, hb7⟩; have HB7 := hid ((HB6.out.alloc HB6.out.size _).trans (hb7.mono (HB6.out.alloc HB6.out.size _).size)); clear hb7))
  go_ret
  exact ⟨rfl, HB7.out⟩
end Go.Proofs.Ytlngnmcflooccaa
