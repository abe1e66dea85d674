/- A value is well formed just if its parts are; where one is not, it is told at its place: the walk of the statement. For every input. -/
import Derived.Test.YtgjjncoelbhpeaaLawForms
namespace Go.Proofs.Ytgjjncoelbhpeaa
open Go.RowKit

theorem inside {gs bs : List Int} (hg : U8 gs) (hb : U8 bs) {p n : Nat} (h : wellS gs = ⟨0, p, n⟩) (hn : n < 32) {f : Int} {q d : Nat} (h2 : wellS bs = ⟨f, q, d⟩) (f0 : f ≠ 0) (f5 : f ≠ 5) (f6 : f ≠ 6) (hne : bs ≠ []) (hl : bs.length ≤ 58)
    (hok : HdOk ⟨0, 16, true, (gs ++ bs).length, 0⟩) : wellS (wrapL 0 16 true (gs ++ bs)) = ⟨f, hdN 0 16 true (gs ++ bs).length + (gs.length + q), 0⟩ := by
  obtain ⟨a1, a2, _, _, a3, _⟩ := wellS_ok hg h
  have hd := valW_dn 31 gs hg a1 (show (valW 32 gs).deep ≤ 31 by omega)
  have hb2 : (valW 32 bs).e = f ∧ (valW 32 bs).pos = q := by
    unfold wellS at h2
    split at h2
    · injection h2 with e1 e2 e3; exact ⟨e1, e2⟩
    · split at h2
      · injection h2 with e1 e2 e3; exact absurd e1.symm f5
      · injection h2 with e1 e2 e3; exact absurd e1.symm f0
  have hb3 : valW 32 bs = valW 31 bs := by
    rcases valW_up 31 bs hb with h | ⟨h, h'⟩
    · exact h
    · have := (valW_bd 31 bs hb).1
      omega
  have hlist : listW (valW 31) (gs ++ bs) = ⟨f, gs.length + q, 0⟩ := by
    rw [listW_app hg hb (by rw [hd]; exact a1) (by rw [hd]; exact a2), listW_err hne (by rw [← hb3, hb2.1]; exact f0), ← hb3, hb2.1, hb2.2]
    unfold joinW
    rw [if_pos f0]
  have hh : headE (wrapL 0 16 true (gs ++ bs)) = 0 := by rw [wrap_head hok]; rfl
  have := wrap_in hok hh 31
  rw [hlist, if_pos f0] at this
  exact wellS_bad this f0

set_option maxRecDepth 20000 in
set_option maxHeartbeats 2000000 in
theorem walkInside (v1 : Value) (gs : List Int) (v2 : Value) (bs : List Int) (w : World) (h1 : Sl .u8 w v1 gs) (hg : U8 gs) (h2 : Sl .u8 w v2 bs) (hb : U8 bs) :
    Calls Try.prog 9 #[v1, v2] w fun e w' => e = .returned (.bool true) ∧ Below w.heap.size w w' := by
  have HS := hid h1
  have HT := hid h2
  have hl1 := h1.len
  have hl2 := h2.len
  obtain ⟨a1, cap1, rfl, -, -, -⟩ := h1
  obtain ⟨a2, cap2, rfl, -, -, -⟩ := h2
  by_cases hA : 200 < gs.length
  · go_enter Try.func9, Try.ntmps9
    go_wp2
    go_ret
    exact ⟨rfl, Below.refl _ _⟩
  by_cases hB : 58 < bs.length
  · go_enter Try.func9, Try.ntmps9
    go_wp2
    go_ret
    exact ⟨rfl, Below.refl _ _⟩
  have tok : True := trivial
  have tok2 : True := trivial
  obtain ⟨E, P, N, hW⟩ : ∃ E P D, wellS gs = ⟨E, P, D⟩ := ⟨_, _, _, rfl⟩
  obtain ⟨F, Q, D2, hV⟩ : ∃ E P D, wellS bs = ⟨E, P, D⟩ := ⟨_, _, _, rfl⟩
  have HW := hid hW
  have HV := hid hV
  by_cases hE : E = 0
  · subst hE
    by_cases hN : 32 ≤ N
    · have hN2 : (32 : Int) ≤ (N : Int) := by omega
      clear hW hV
      go_enter Try.func9, Try.ntmps9
      go_wp2_with (first
              | (go_at_call 11; have _t := tok; clear tok; refine (wellCheck _ gs _ HS.out hg HW.out).mono ?_; rintro e w2 ⟨rfl, hb2⟩; have HB2 := hid hb2; have HS2 := hid (HS.out.below hb2); have HT2 := hid (HT.out.below hb2); clear hb2)
              | (go_at_call 13; refine (wellDepth _ gs _ HS2.out hg HW.out).mono ?_; rintro e w3 ⟨rfl, hb3⟩; have HB3 := hid (HB2.out.trans (hb3.mono HB2.out.size)); have HS3 := hid (HS2.out.below hb3); have HT3 := hid (HT2.out.below hb3); clear hb3)
              | (go_at_call 11; have _t := tok2; clear tok2; refine (wellCheck _ bs _ HT3.out hb HV.out).mono ?_; rintro e w4 ⟨rfl, hb4⟩; have HB4 := hid (HB3.out.trans (hb4.mono HB3.out.size)); have HS4 := hid (HS3.out.below hb4); have HT4 := hid (HT3.out.below hb4); clear hb4)
              | (go_at_call 16; refine (wakesOk _).mono ?_; rintro e w9 ⟨rfl, hb9⟩; have HB9 := hid (HB4.out.trans (hb9.mono HB4.out.size)); clear hb9))
      go_ret
      exact ⟨rfl, HB9.out⟩
    by_cases hF : F = 0
    · subst hF
      clear hW hV
      go_enter Try.func9, Try.ntmps9
      go_wp2_with (first
              | (go_at_call 11; have _t := tok; clear tok; refine (wellCheck _ gs _ HS.out hg HW.out).mono ?_; rintro e w2 ⟨rfl, hb2⟩; have HB2 := hid hb2; have HS2 := hid (HS.out.below hb2); have HT2 := hid (HT.out.below hb2); clear hb2)
              | (go_at_call 13; refine (wellDepth _ gs _ HS2.out hg HW.out).mono ?_; rintro e w3 ⟨rfl, hb3⟩; have HB3 := hid (HB2.out.trans (hb3.mono HB2.out.size)); have HS3 := hid (HS2.out.below hb3); have HT3 := hid (HT2.out.below hb3); clear hb3)
              | (go_at_call 11; have _t := tok2; clear tok2; refine (wellCheck _ bs _ HT3.out hb HV.out).mono ?_; rintro e w4 ⟨rfl, hb4⟩; have HB4 := hid (HB3.out.trans (hb4.mono HB3.out.size)); have HS4 := hid (HS3.out.below hb4); have HT4 := hid (HT3.out.below hb4); clear hb4)
              | (go_at_call 16; refine (wakesOk _).mono ?_; rintro e w9 ⟨rfl, hb9⟩; have HB9 := hid (HB4.out.trans (hb9.mono HB4.out.size)); clear hb9))
      go_ret
      exact ⟨rfl, HB9.out⟩
    have f0 : (F == 0) = false := beq_eq_false_iff_ne.2 hF
    by_cases hF5 : F = 5
    · subst hF5
      clear hF
      clear hW hV
      go_enter Try.func9, Try.ntmps9
      go_wp2_with (first
              | (go_at_call 11; have _t := tok; clear tok; refine (wellCheck _ gs _ HS.out hg HW.out).mono ?_; rintro e w2 ⟨rfl, hb2⟩; have HB2 := hid hb2; have HS2 := hid (HS.out.below hb2); have HT2 := hid (HT.out.below hb2); clear hb2)
              | (go_at_call 13; refine (wellDepth _ gs _ HS2.out hg HW.out).mono ?_; rintro e w3 ⟨rfl, hb3⟩; have HB3 := hid (HB2.out.trans (hb3.mono HB2.out.size)); have HS3 := hid (HS2.out.below hb3); have HT3 := hid (HT2.out.below hb3); clear hb3)
              | (go_at_call 11; have _t := tok2; clear tok2; refine (wellCheck _ bs _ HT3.out hb HV.out).mono ?_; rintro e w4 ⟨rfl, hb4⟩; have HB4 := hid (HB3.out.trans (hb4.mono HB3.out.size)); have HS4 := hid (HS3.out.below hb4); have HT4 := hid (HT3.out.below hb4); clear hb4)
              | (go_at_call 16; refine (wakesOk _).mono ?_; rintro e w9 ⟨rfl, hb9⟩; have HB9 := hid (HB4.out.trans (hb9.mono HB4.out.size)); clear hb9))
      go_ret
      exact ⟨rfl, HB9.out⟩
    have f5 : (F == 5) = false := beq_eq_false_iff_ne.2 hF5
    by_cases hF6 : F = 6
    · subst hF6
      clear hF hF5
      clear hW hV
      go_enter Try.func9, Try.ntmps9
      go_wp2_with (first
              | (go_at_call 11; have _t := tok; clear tok; refine (wellCheck _ gs _ HS.out hg HW.out).mono ?_; rintro e w2 ⟨rfl, hb2⟩; have HB2 := hid hb2; have HS2 := hid (HS.out.below hb2); have HT2 := hid (HT.out.below hb2); clear hb2)
              | (go_at_call 13; refine (wellDepth _ gs _ HS2.out hg HW.out).mono ?_; rintro e w3 ⟨rfl, hb3⟩; have HB3 := hid (HB2.out.trans (hb3.mono HB2.out.size)); have HS3 := hid (HS2.out.below hb3); have HT3 := hid (HT2.out.below hb3); clear hb3)
              | (go_at_call 11; have _t := tok2; clear tok2; refine (wellCheck _ bs _ HT3.out hb HV.out).mono ?_; rintro e w4 ⟨rfl, hb4⟩; have HB4 := hid (HB3.out.trans (hb4.mono HB3.out.size)); have HS4 := hid (HS3.out.below hb4); have HT4 := hid (HT3.out.below hb4); clear hb4)
              | (go_at_call 16; refine (wakesOk _).mono ?_; rintro e w9 ⟨rfl, hb9⟩; have HB9 := hid (HB4.out.trans (hb9.mono HB4.out.size)); clear hb9))
      go_ret
      exact ⟨rfl, HB9.out⟩
    have f6 : (F == 6) = false := beq_eq_false_iff_ne.2 hF6
    by_cases hbs : bs = []
    · have hl0 : ((bs.length : Int) == 0) = true := by subst hbs; rfl
      clear hF hF5 hF6 hbs
      clear hW hV
      go_enter Try.func9, Try.ntmps9
      go_wp2_with (first
              | (go_at_call 11; have _t := tok; clear tok; refine (wellCheck _ gs _ HS.out hg HW.out).mono ?_; rintro e w2 ⟨rfl, hb2⟩; have HB2 := hid hb2; have HS2 := hid (HS.out.below hb2); have HT2 := hid (HT.out.below hb2); clear hb2)
              | (go_at_call 13; refine (wellDepth _ gs _ HS2.out hg HW.out).mono ?_; rintro e w3 ⟨rfl, hb3⟩; have HB3 := hid (HB2.out.trans (hb3.mono HB2.out.size)); have HS3 := hid (HS2.out.below hb3); have HT3 := hid (HT2.out.below hb3); clear hb3)
              | (go_at_call 11; have _t := tok2; clear tok2; refine (wellCheck _ bs _ HT3.out hb HV.out).mono ?_; rintro e w4 ⟨rfl, hb4⟩; have HB4 := hid (HB3.out.trans (hb4.mono HB3.out.size)); have HS4 := hid (HS3.out.below hb4); have HT4 := hid (HT3.out.below hb4); clear hb4)
              | (go_at_call 16; refine (wakesOk _).mono ?_; rintro e w9 ⟨rfl, hb9⟩; have HB9 := hid (HB4.out.trans (hb9.mono HB4.out.size)); clear hb9))
      go_ret
      exact ⟨rfl, HB9.out⟩
    have hl0 : ((bs.length : Int) == 0) = false := beq_eq_false_iff_ne.2 (by have := List.length_pos_iff.2 hbs; omega)
    have hn2 : ¬ (32 : Int) ≤ (N : Int) := by omega
    have hcl : (gs ++ bs).length = gs.length + bs.length := List.length_append
    have hok : HdOk ⟨0, 16, true, (gs ++ bs).length, 0⟩ := ⟨⟨by dsimp only; omega, by dsimp only; omega⟩, ⟨by dsimp only; omega, by dsimp only; omega⟩, ⟨by dsimp only; omega, by dsimp only; omega⟩⟩
    have HI := hid (inside hg hb hW (by omega) hV hF hF5 hF6 hbs (by omega) hok)
    have HU := hid (wrap_u8 hok (hg.append hb))
    have HRD := hid (wrap_rd hok)
    have hhn := hdN_bd hok (hg.append hb)
    have hQ : (Q : Int) ≤ 1000 := by
      have h3 := (valW_bd 32 bs hb).1
      unfold wellS at hV
      split at hV
      · injection hV with e1 e2 e3; omega
      · split at hV
        · injection hV with e1 e2 e3; omega
        · injection hV with e1 e2 e3; omega
    have HOK := hid hok
    obtain ⟨cs, hcs⟩ : ∃ cs, cs = gs ++ bs := ⟨_, rfl⟩
    rw [← hcs] at HI HU HRD HOK hcl hhn
    have HCS := hid hcs
    generalize hdN 0 16 true cs.length = hn at HI HRD hhn
    have hcl2 : cs.length ≤ 258 := by omega
    clear hW hV hok hF hF5 hF6 hbs hcs hcl
    go_enter Try.func9, Try.ntmps9
    go_wp2_with (first
            | (go_at_call 11; have _t := tok; clear tok; refine (wellCheck _ gs _ HS.out hg HW.out).mono ?_; rintro e w2 ⟨rfl, hb2⟩; have HB2 := hid hb2; have HS2 := hid (HS.out.below hb2); have HT2 := hid (HT.out.below hb2); clear hb2)
            | (go_at_call 13; refine (wellDepth _ gs _ HS2.out hg HW.out).mono ?_; rintro e w3 ⟨rfl, hb3⟩; have HB3 := hid (HB2.out.trans (hb3.mono HB2.out.size)); have HS3 := hid (HS2.out.below hb3); have HT3 := hid (HT2.out.below hb3); clear hb3)
            | (go_at_call 11; have _t := tok2; clear tok2; refine (wellCheck _ bs _ HT3.out hb HV.out).mono ?_; rintro e w4 ⟨rfl, hb4⟩; have HB4 := hid (HB3.out.trans (hb4.mono HB3.out.size)); have HS4 := hid (HS3.out.below hb4); have HT4 := hid (HT3.out.below hb4); clear hb4)
            | (go_at_call 10; refine (keepTwin _ gs _ HS4.out (by omega)).mono ?_; rintro e w5 ⟨v5, rfl, ho5, hb5⟩; have HO5 := hid ho5; have HB5 := hid (HB4.out.trans (hb5.mono HB4.out.size)); have HT5 := hid (HT4.out.below hb5); have hz4 := HB4.out.size; have hz5 := hb5.size; clear ho5 hb5)
            | (at_builtin; refine wpList_app _ rfl _ _ 22 rfl .u8 w4.heap.size 5 1 Try.underlying22 Try.infoU8 _ gs bs rfl HO5.out _ rfl HT5.out (by unfold maxLen; omega) (by omega) (by omega) ?_; rw [← HCS.out]; intro v6 w6 ho6 hg6 hb6 hn6; have HO6 := hid ho6; have HB6 := hid (HB5.out.trans (hb6.mono hz4)); clear ho6 hb6 hg6 hn6)
            | (go_at_call 20; refine (refWrap 0 16 true _ cs _ HO6.out.sl HOK.out (by omega)).mono ?_; rintro e w7 ⟨v7, rfl, ho7, hb7⟩; have HO7 := hid (show Own .u8 5 w6.heap.size w7 v7 (wrapL 0 16 true cs) from ho7); have HB7 := hid (HB6.out.trans (hb7.mono HB6.out.size)); clear ho7 hb7)
            | (go_at_call 22; refine (readHead' _ (wrapL 0 16 true cs) _ HO7.out.sl HU.out HRD.out).mono ?_; rintro e w8 ⟨rfl, hb8⟩; have HB8 := hid (HB7.out.trans (hb8.mono HB7.out.size)); have hz8 := HB8.out.size; have HO8 := hid ((HO7.out.below hb8).alloc (.cells #[.int .i64 0, .int .i64 16, .bool true, .int .i64 (cs.length : Int), .int .i64 (hn : Int)] 35)); have HX8 := hid (Box.made w8 35 [.int .i64 0, .int .i64 16, .bool true, .int .i64 (cs.length : Int), .int .i64 (hn : Int)]); have HC8 := hid (HB8.out.alloc hz8 (.cells #[.int .i64 0, .int .i64 16, .bool true, .int .i64 (cs.length : Int), .int .i64 (hn : Int)] 35)); clear hb8)
            | (go_at_call 11; refine (wellCheck _ (wrapL 0 16 true cs) _ HO8.out.sl HU.out HI.out).mono ?_; rintro e w10 ⟨rfl, hb10⟩; have HX10 := hid (HX8.out.below hb10 (by simp)); have HB10 := hid (HC8.out.trans (hb10.mono HC8.out.size)); obtain ⟨k0, k1, k2, k3, k4⟩ := HX10.out.five; obtain ⟨g0, g1, g2, g3, g4⟩ := HX10.out.ice5; have hlt10 := HX10.out.lt; clear hb10)
            | (go_at_call 16; refine (wakesOk _).mono ?_; rintro e w9 ⟨rfl, hb9⟩; have HB9 := hid (HB10.out.trans (hb9.mono HB10.out.size)); clear hb9))
    all_goals go_outline
    go_ret
    exact ⟨rfl, HB9.out⟩
  · have hE1 : (E != 0) = true := by simp [hE]
    clear hE
    clear hW hV
    go_enter Try.func9, Try.ntmps9
    go_wp2_with (first
            | (go_at_call 11; have _t := tok; clear tok; refine (wellCheck _ gs _ HS.out hg HW.out).mono ?_; rintro e w2 ⟨rfl, hb2⟩; have HB2 := hid hb2; have HS2 := hid (HS.out.below hb2); have HT2 := hid (HT.out.below hb2); clear hb2)
            | (go_at_call 13; refine (wellDepth _ gs _ HS2.out hg HW.out).mono ?_; rintro e w3 ⟨rfl, hb3⟩; have HB3 := hid (HB2.out.trans (hb3.mono HB2.out.size)); have HS3 := hid (HS2.out.below hb3); have HT3 := hid (HT2.out.below hb3); clear hb3)
            | (go_at_call 11; have _t := tok2; clear tok2; refine (wellCheck _ bs _ HT3.out hb HV.out).mono ?_; rintro e w4 ⟨rfl, hb4⟩; have HB4 := hid (HB3.out.trans (hb4.mono HB3.out.size)); have HS4 := hid (HS3.out.below hb4); have HT4 := hid (HT3.out.below hb4); clear hb4)
            | (go_at_call 16; refine (wakesOk _).mono ?_; rintro e w9 ⟨rfl, hb9⟩; have HB9 := hid (HB4.out.trans (hb9.mono HB4.out.size)); clear hb9))
    go_ret
    exact ⟨rfl, HB9.out⟩

end Go.Proofs.Ytgjjncoelbhpeaa
