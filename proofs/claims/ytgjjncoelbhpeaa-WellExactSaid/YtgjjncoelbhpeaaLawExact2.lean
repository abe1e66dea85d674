/- Whether any bytes are well formed, or where and why not, their depth, their parts, are the page's: the walk of the statement. For every input. -/
import Derived.Test.YtgjjncoelbhpeaaRefWell
import Derived.Test.YtgjjncoelbhpeaaGrid2
import Derived.Test.YtgjjncoelbhpeaaWell6
namespace Go.Proofs.Ytgjjncoelbhpeaa
open Go.RowKit

theorem refWell' (v : Value) (xs : List Int) (w : World) (h : Sl .u8 w v xs) (hu : U8 xs) (hl : xs.length ≤ 1000000000000) {e : Int} {p d : Nat} (hr : wellS xs = ⟨e, p, d⟩) :
    Calls Try.prog 14 #[v] w fun x w' => x = .returned (.tuple #[.int .i64 (p : Int), .int .i64 e, .int .i64 (d : Int)]) ∧ Below w.heap.size w w' := by
  have := refWell v xs w h hu hl
  rw [hr] at this
  exact this

set_option maxRecDepth 20000 in
set_option maxHeartbeats 4000000 in
theorem walkExact (v : Value) (xs : List Int) (w : World) (h : Sl .u8 w v xs) (hu : U8 xs) :
    Calls Try.prog 3 #[v] w fun e w' => e = .returned (.bool true) ∧ Below w.heap.size w w' := by
  have HS := hid h
  have hl := h.len
  obtain ⟨a, cap, rfl, -, -, -⟩ := h
  by_cases hlen : 700 < xs.length
  · go_enter Try.func3, Try.ntmps3
    go_wp2
    go_ret
    exact ⟨rfl, Below.refl _ _⟩
  have HU := hid hu
  obtain ⟨E, P, D, hW⟩ : ∃ E P D, wellS xs = ⟨E, P, D⟩ := ⟨_, _, _, rfl⟩
  have HW := hid hW
  by_cases hE : E = 0
  · subst hE
    obtain ⟨a1, a2, a3, a4, a5, rfl⟩ := wellS_ok hu hW
    have hrd2 := (headE_ok hu a4).1
    have hs0 := (headE_ok hu a4).2.2.1
    have hends := ends_of hu a4
    have hvin := fun h => (valW_in (k := 31) a1 h).1
    obtain ⟨⟨⟨cls, tag, cons, ln, size⟩, E2⟩, hrd⟩ : ∃ r, rd xs = r := ⟨_, rfl⟩
    have hszS : (rd xs).1.size = (szS xs : Int) := by unfold szS; omega
    have HR0 := hid hrd
    rw [hrd] at hrd2 hs0 hszS hvin
    dsimp only at hrd2 hs0 hszS hvin
    subst hrd2 hszS
    generalize hsg : szS xs = s at *
    have HR := hid HR0.out
    clear HR0
    cases cons
    · have HC : Hid (¬ (rd xs).1.cons = true) := by show ¬ _; rw [hrd]; simp
      clear hW hrd hvin hends a1 a2 a3 a4 a5 hsg hs0
      go_enter Try.func3, Try.ntmps3
      go_wp2_with (first
              | (go_at_call 10; refine (keepTwin _ xs _ HS.out (by omega)).mono ?_; rintro e w1 ⟨v1, rfl, ho1, hb1⟩; have HO1 := hid ho1; have HB1 := hid hb1; clear ho1 hb1)
              | (go_at_call 11; refine (wellCheck _ xs _ HO1.out.sl HU.out HW.out).mono ?_; rintro e w2 ⟨rfl, hb2⟩; have HO2 := hid (HO1.out.below hb2); have HB2 := hid (HB1.out.trans (hb2.mono HB1.out.size)); clear hb2)
              | (go_at_call 12; refine (wellPartsLeaf _ xs _ HO2.out.sl HU.out HW.out HC.out).mono ?_; rintro e w3 ⟨rfl, hb3⟩; have HO3 := hid (HO2.out.below hb3); have HB3 := hid (HB2.out.trans (hb3.mono HB2.out.size)); clear hb3)
              | (go_at_call 13; refine (wellDepth _ xs _ HO3.out.sl HU.out HW.out).mono ?_; rintro e w4 ⟨rfl, hb4⟩; have HO4 := hid (HO3.out.below hb4); have HB4 := hid (HB3.out.trans (hb4.mono HB3.out.size)); clear hb4)
              | (go_at_call 14; refine (refWell' _ xs _ (HS.out.below HB4.out) HU.out (by omega) HW.out).mono ?_; rintro e w5 ⟨rfl, hb5⟩; have HO5 := hid (HO4.out.below hb5); have HB5 := hid (HB4.out.trans (hb5.mono HB4.out.size)); clear hb5)
              | (go_at_call 15; refine (keepBytes _ _ xs xs _ HO5.out.sl (HS.out.below HB5.out)).mono ?_; rw [eqL_self]; rintro e w6 ⟨rfl, n6, rfl⟩; have HB6 := hid (below_drewN' HB5.out n6))
              | (go_at_call 17; refine (refRead' _ xs _ (HS.out.below HB6.out) HU.out HR.out).mono ?_; rintro e w7 ⟨rfl, hb7⟩; have HX7 := hid (Box.made w7 35 [.int .i64 cls, .int .i64 tag, .bool false, .int .i64 ln, .int .i64 (s : Int)]); have HB7 := hid ((HB6.out.trans (hb7.mono HB6.out.size)).alloc (HB6.out.trans (hb7.mono HB6.out.size)).size (.cells #[.int .i64 cls, .int .i64 tag, .bool false, .int .i64 ln, .int .i64 (s : Int)] 35)); clear hb7)
              | (go_at_call 16; refine (wakesOk _).mono ?_; rintro e w9 ⟨rfl, hb9⟩; have HB9 := hid (HB7.out.trans (hb9.mono HB7.out.size)); clear hb9))
      go_ret
      exact ⟨rfl, HB9.out⟩
    · have HC : Hid ((rd xs).1.cons = true) := by show _ = _; rw [hrd]
      have HIN := hid (hvin rfl)
      obtain ⟨vr, hr1, hr2, hrs⟩ := cut_all (P := Try.prog) w 22 5 Try.underlying22 Try.infoU8 .u8 _ xs HS.out (some (.int .i64 (s : Int))) none s xs.length (.inr ⟨_, rfl⟩) (.inl ⟨rfl, rfl⟩) (by omega) (by omega)
      have hbody : xs.drop s = bodyS xs := by
        have hbl : bodyS xs = (xs.drop (szS xs)).take (bodyS xs).length := by
          unfold bodyS
          rw [List.length_take]
          rw [List.take_eq_take_iff]
          omega
        rw [hbl, hsg, List.take_of_length_le]
        rw [List.length_drop]
        omega
      have HVR : Hid (Sl .u8 w vr (bodyS xs)) := by
        have := hrs w HS.out
        rw [List.take_of_length_le (by rw [List.length_drop]; omega), hbody] at this
        exact this
      have HBU := hid (bodyS_u8 hu)
      have hbl : (bodyS xs).length ≤ 1000 := by omega
      obtain ⟨zs, hzs⟩ : ∃ zs, bodyS xs = zs := ⟨_, rfl⟩
      have HZS := hid hzs
      rw [hzs] at hbody HVR HBU hbl HIN hends
      clear hzs
      clear hW hrd hvin hends a1 a2 a3 a4 a5 hsg hs0 hrs hbody hu
      skip
      go_enter Try.func3, Try.ntmps3
      go_wp2_with (first
              | (go_at_call 10; refine (keepTwin _ xs _ HS.out (by omega)).mono ?_; rintro e w1 ⟨v1, rfl, ho1, hb1⟩; have HO1 := hid ho1; have HB1 := hid hb1; clear ho1 hb1)
              | (go_at_call 11; refine (wellCheck _ xs _ HO1.out.sl HU.out HW.out).mono ?_; rintro e w2 ⟨rfl, hb2⟩; have HO2 := hid (HO1.out.below hb2); have HB2 := hid (HB1.out.trans (hb2.mono HB1.out.size)); clear hb2)
              | (go_at_call 12; refine (wellPartsOk _ xs _ HO2.out.sl HU.out (by omega) HW.out HC.out).mono ?_; rw [HZS.out]; rintro e w3 ⟨v3, rfl, hr3, hb3⟩; have HR3 := hid hr3; have HO3 := hid (HO2.out.below hb3); have HB3 := hid (HB2.out.trans (hb3.mono HB2.out.size)); clear hb3 hr3)
              | (go_at_call 13; refine (wellDepth _ xs _ HO3.out.sl HU.out HW.out).mono ?_; rintro e w4 ⟨rfl, hb4⟩; have HO4 := hid (HO3.out.below hb4); have HR4 := hid (HR3.out.below hb4); have HB4 := hid (HB3.out.trans (hb4.mono HB3.out.size)); clear hb4)
              | (go_at_call 14; refine (refWell' _ xs _ (HS.out.below HB4.out) HU.out (by omega) HW.out).mono ?_; rintro e w5 ⟨rfl, hb5⟩; have HO5 := hid (HO4.out.below hb5); have HR5 := hid (HR4.out.below hb5); have HB5 := hid (HB4.out.trans (hb5.mono HB4.out.size)); clear hb5)
              | (go_at_call 15; refine (keepBytes _ _ xs xs _ HO5.out.sl (HS.out.below HB5.out)).mono ?_; rw [eqL_self]; rintro e w6 ⟨rfl, n6, rfl⟩; have HB6 := hid (below_drewN' HB5.out n6))
              | (go_at_call 17; refine (refRead' _ xs _ (HS.out.below HB6.out) HU.out HR.out).mono ?_; rintro e w7 ⟨rfl, hb7⟩; have HX7 := hid (Box.made w7 35 [.int .i64 cls, .int .i64 tag, .bool true, .int .i64 ln, .int .i64 (s : Int)]); have HB7 := hid ((HB6.out.trans (hb7.mono HB6.out.size)).alloc (HB6.out.trans (hb7.mono HB6.out.size)).size (.cells #[.int .i64 cls, .int .i64 tag, .bool true, .int .i64 ln, .int .i64 (s : Int)] 35)); have HR7 := hid (((show OwnRows 22 5 w2.heap.size (w5.drewN n6) _ (partsS zs) from HR5.out).below hb7).below ((Below.refl _ _).alloc (Nat.le_refl _) (.cells #[.int .i64 cls, .int .i64 tag, .bool true, .int .i64 ln, .int .i64 (s : Int)] 35))); clear hb7)
              | (go_at_call 19; refine (refParts _ zs _ (HVR.out.below HB7.out) HBU.out (by omega) HIN.out).mono ?_; rintro e w8 ⟨v8, rfl, hr8, hb8⟩; have HR8 := hid hr8; have HT8 := hid (HR7.out.below hb8); have HB8 := hid (HB7.out.trans (hb8.mono HB7.out.size)); clear hb8 hr8)
              | (go_at_call 18; refine (keepRows _ _ (partsS zs) (partsS zs) _ HT8.out.rws HR8.out.rws).mono ?_; rw [eqR_self]; rintro e w10 ⟨rfl, n10, rfl⟩; have HB10 := hid (below_drewN' HB8.out n10))
              | (go_at_call 16; refine (wakesOk _).mono ?_; rintro e w9 ⟨rfl, hb9⟩; have HB9 := hid (HB10.out.trans (hb9.mono HB10.out.size)); clear hb9))
      go_ret
      exact ⟨rfl, HB9.out⟩
  · have hD : D = 0 := by
      unfold wellS at hW
      split at hW
      · injection hW with e1 e2 e3; exact e3.symm
      · split at hW
        · injection hW with e1 e2 e3; exact e3.symm
        · injection hW with e1 e2 e3; exact absurd e1.symm hE
    subst hD
    have hE1 : (E != 0) = true := by simp [hE]
    clear hW
    go_enter Try.func3, Try.ntmps3
    go_wp2_with (first
            | (go_at_call 10; refine (keepTwin _ xs _ HS.out (by omega)).mono ?_; rintro e w1 ⟨v1, rfl, ho1, hb1⟩; have HO1 := hid ho1; have HB1 := hid hb1; clear ho1 hb1)
            | (go_at_call 11; refine (wellCheck _ xs _ HO1.out.sl HU.out HW.out).mono ?_; rintro e w2 ⟨rfl, hb2⟩; have HO2 := hid (HO1.out.below hb2); have HB2 := hid (HB1.out.trans (hb2.mono HB1.out.size)); clear hb2)
            | (go_at_call 12; refine (wellPartsBad _ xs _ HO2.out.sl HU.out HW.out hE).mono ?_; rintro e w3 ⟨rfl, hb3⟩; have HO3 := hid (HO2.out.below hb3); have HB3 := hid (HB2.out.trans (hb3.mono HB2.out.size)); clear hb3)
            | (go_at_call 13; refine (wellDepth _ xs _ HO3.out.sl HU.out HW.out).mono ?_; rintro e w4 ⟨rfl, hb4⟩; have HO4 := hid (HO3.out.below hb4); have HB4 := hid (HB3.out.trans (hb4.mono HB3.out.size)); clear hb4)
            | (go_at_call 14; refine (refWell' _ xs _ (HS.out.below HB4.out) HU.out (by omega) HW.out).mono ?_; rintro e w5 ⟨rfl, hb5⟩; have HO5 := hid (HO4.out.below hb5); have HB5 := hid (HB4.out.trans (hb5.mono HB4.out.size)); clear hb5)
            | (go_at_call 15; refine (keepBytes _ _ xs xs _ HO5.out.sl (HS.out.below HB5.out)).mono ?_; rw [eqL_self]; rintro e w6 ⟨rfl, n6, rfl⟩; have HB6 := hid (below_drewN' HB5.out n6))
            | (go_at_call 16; refine (wakesOk _).mono ?_; rintro e w9 ⟨rfl, hb9⟩; have HB9 := hid (HB6.out.trans (hb9.mono HB6.out.size)); clear hb9))
    go_ret
    exact ⟨rfl, HB9.out⟩

end Go.Proofs.Ytgjjncoelbhpeaa
