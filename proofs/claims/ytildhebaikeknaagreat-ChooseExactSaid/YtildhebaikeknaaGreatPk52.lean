/- Several texts in one: Te18i, StrPut, ChoIs, Walks20x. -/
import Derived.Test.YtildhebaikeknaaGreatPk51
import Derived.Test.YtildhebaikeknaaGreatPk43
import Derived.Test.YtildhebaikeknaaGreatPk46
import Derived.Test.YtildhebaikeknaaGreatPk47
import Derived.Test.YtildhebaikeknaaGreatPk48
import Derived.Test.YtildhebaikeknaaGreatPk50
import Derived.Test.YtildhebaikeknaaGreatPk45
/-! Te18i -/
namespace Go.Proofs.YtildhebaikeknaaGreat
open Go.RowKit
set_option linter.unusedVariables false

theorem MapP.none' {base : Nat} {v : Value} {M : Nat} {w : World} (h : MapP base v M w) {c g : Int} (hc : inI c = true) (hg : inI g = true) (ho : oneP g c = Option.none) :
    (Instr.lookup 77 (.map (some M)) (.agg #[.int .i64 c, .int .i64 g]) true).run Tryz.prog w = .ok (.tuple #[.agg #[.slice Option.none 0 0, .int .i64 0], .bool false]) w := by
  rcases h.look hc hg with h | ⟨x, h1, bs, h2, -⟩
  · exact h
  · rw [ho] at h2; cases h2
theorem MapP.some' {base : Nat} {v : Value} {M : Nat} {w : World} (h : MapP base v M w) {c g h0 : Int} {bs : List Int} (hc : inI c = true) (hg : inI g = true) (ho : oneP g c = Option.some (bs, h0)) :
    ∃ (ok : Bool) (a : Option Addr) (nn cp : Nat) (hh : Int), (Instr.lookup 77 (.map (Option.some M)) (.agg #[.int .i64 c, .int .i64 g]) true).run Tryz.prog w = .ok (.tuple #[.agg #[.slice a nn cp, .int .i64 hh], .bool ok]) w ∧ (ok = true → hh = h0 ∧ Own .u8 5 base w (.slice a nn cp) bs ∧ Apt v (.slice a nn cp)) := by
  rcases h.look hc hg with h | ⟨x, h1, bs', h2, h3, h4, h5⟩
  · exact ⟨false, Option.none, 0, 0, 0, h, fun h => by cases h⟩
  · rw [ho] at h2
    injection h2 with h2
    simp only [Prod.mk.injEq] at h2
    obtain ⟨rfl, rfl⟩ := h2
    obtain ⟨a, cp, rfl⟩ := h3.sl.form
    exact ⟨true, a, _, cp, _, h5, fun _ => ⟨rfl, h3, h4⟩⟩
theorem MapP.two {base : Nat} {v : Value} {M : Nat} {w : World} (h : MapP base v M w) {t : TypeId} {cs : List Value} {B : Nat} (hb : Box t cs B w) (ht : t ≠ 5) (x y : Value) : MapP base v M ((w.setCell ⟨B, 0, none⟩ x).setCell ⟨B, 1, none⟩ y) := by
  have hn : B ≠ M := fun e => by
    obtain ⟨es, clock, hm, -⟩ := h
    unfold Box at hb
    rw [e, hm] at hb
    cases hb
  refine h.move ?_ (fun z zs h1 h2 => ⟨far_two h1 hb ht x y, h2⟩)
  exact (Below.heap_setCell _ _ _ _ (fun e => hn e.symm)).trans (Below.heap_setCell _ _ _ _ (fun e => hn e.symm))
theorem apt_new {base B : Nat} {w w' : World} {v x : Value} {xs ys : List Int} (h : Own .u8 5 base w v xs) (hx : Own .u8 5 B w' x ys) (hB : w.heap.size ≤ B) : Apt v x := fun b h1 h2 => by
  have a := (World.ownsRow.lt h b h1).2
  have b' := (World.ownsRow.lt hx b h2).1
  omega
theorem Box.nomap {t : TypeId} {cs : List Value} {B M base : Nat} {v : Value} {w w' : World} (hb : Box t cs B w) (h : MapP base v M w) (hg : w.grownBy w' (some M)) : Box t cs B w' := by
  have hn : B ≠ M := fun e => by
    obtain ⟨es, clock, hm, -⟩ := h
    unfold Box at hb
    rw [e, hm] at hb
    cases hb
  exact (hg.block B hb.lt (fun e => hn (by injection e))).trans hb
theorem Box.far2 {t t' : TypeId} {cs cs' : List Value} {B B' : Nat} {w : World} (h : Box t cs B w) (hb : Box t' cs' B' w) (hn : B ≠ B') (x y : Value) : Box t cs B ((w.setCell ⟨B', 0, none⟩ x).setCell ⟨B', 1, none⟩ y) :=
  ((Below.heap_setCell _ _ _ _ hn).trans (Below.heap_setCell _ _ _ _ hn)).trans h
set_option maxHeartbeats 8000000 in
set_option maxRecDepth 100000 in
theorem tePut (HE : ShEscOk) : TPutOk := by
  intro v s w hs hall hl
  have HSL := hid hs
  obtain ⟨a1, cap1, rfl, q1, -, h1⟩ := hs
  obtain ⟨n, hn⟩ : ∃ n, n = s.length := ⟨_, rfl⟩
  have HN := hid hn
  have HC1 := hid h1
  have HALL := hid (fun j (h : j < n) => (show inI (s.getD j 0) = true from by
    have hj : j < s.length := by omega
    rw [List.getD_eq_getElem?_getD, List.getElem?_eq_getElem hj]
    exact List.all_eq_true.1 hall _ (List.getElem_mem hj)))
  rw [← hn] at q1 hl ⊢
  clear h1 hn hall HSL
  go_enter Tryz.func33, Tryz.ntmps33
  go_wp2_with (fail)
  simp only [run_makeMap, Result.andThen]
  go_wp2
  go_loopw [2, 3, 4, 6, 15] (fun bv rv ev gv iv wr => ∃ (j : Nat) (x : List Int) (g : Int), j ≤ n ∧ x.length ≤ 6 * j ∧ inI g = true ∧ rv = .int .i64 0 ∧ ev = .int .i64 0 ∧ gv = .int .i64 g ∧ iv = .int .i64 (j : Int) ∧ Hid (Own .u8 5 w.heap.size wr bv x) ∧ Hid (MapP w.heap.size bv w.heap.size wr) ∧ Hid (Below w.heap.size w wr) ∧ Hid (put18 s = aheadP j x (putF g (s.drop j)))) (fun _ _ _ _ iv _ => n - (intOf iv).toNat)
  case atStart => exact ⟨0, [], 102, Nat.zero_le _, by simp, by decide, rfl, rfl, rfl, rfl, Own.nil _ _ _ _, MapP.nil (heap_alloc_new w (.map #[] 0)), by (repeat (first | exact Below.refl _ _ | exact below_drewN _ | refine Below.drew ?_ | refine Below.alloc ?_ (by simp) _ | refine Below.setCell ?_ (by simp) _ | refine below_drewN' ?_ _)), (aheadP_nil _).symm⟩
  case round =>
    obtain ⟨j, x, g, hj, hxl, hg, rfl, rfl, rfl, rfl, hown, hmap, hbel, hput⟩ := hrel
    by_cases hlt : j < n
    · rcases HC1.out with hcc | ⟨b1, o1, rfl, hb1, hc⟩
      · omega
      have hb1' := hb1 (by have := HN.out; omega)
      have d1 := (hbel.out.cell (p := ⟨b1, o1 + j, none⟩) hb1').trans (hc j (by have := HN.out; omega))
      have HIC := hid (HALL.out j hlt)
      have hdr : s.drop j = s.getD j 0 :: s.drop (j + 1) := drop_getD rfl (by have := HN.out; omega)
      rw [hdr] at hput
      clear hc hb1 hb1' hdr
      generalize s.getD j 0 = c at d1 HIC hput
      have HIG := hid hg
      have HWR := hid (fun w => teWrite HE c g w)
      have HM1 := hid (hmap.out.below (Below.alloc (Below.refl _ _) (Nat.le_refl _) (.cells #[.int .i64 c, .int .i64 g] 79)))
      have HO1 := hid (hown.out.alloc (.cells #[.int .i64 c, .int .i64 g] 79))
      have hbs := hbel.out.size
      have HBS := hid (show w.heap.size ≤ (wr.alloc (.cells #[.int .i64 c, .int .i64 g] 79)).heap.size from by simp; omega)
      have HBP := hid (show w.heap.size ≤ wr.heap.size + 1 from by omega)
      have HNE := hid (show wr.heap.size ≠ wr.heap.size + 1 from by omega)
      clear hg hbs
      generalize ho : oneP g c = O
      have HON := hid ho
      cases O with
      | none =>
        have HP := hid (show put18 s = .inr j from by rw [hput.out]; exact aheadP_none ho)
        clear ho
        go_wp2_with (first | (at_lookup; go_loud (refine wpList_lookK rfl _ _ 77 rfl w.heap.size _ rfl rfl (MapP.none' HM1.out HIC.out HIG.out HON.out) ?_; have HT2 := hid ((Box.made wr 79 [.int .i64 c, .int .i64 g]).alloc (.cells #[.slice none 0 0, .int .i64 0] 81)); have HX2 := hid (box_last wr (.cells #[.int .i64 c, .int .i64 g] 79) 81 [.slice none 0 0, .int .i64 0]); have HM2 := hid (HM1.out.below (Below.alloc (Below.refl _ _) (Nat.le_refl _) (.cells #[.slice none 0 0, .int .i64 0] 81))); have HO2 := hid (HO1.out.alloc (.cells #[.slice none 0 0, .int .i64 0] 81)); have HB2 := hid (show Below w.heap.size w ((wr.alloc (.cells #[.int .i64 c, .int .i64 g] 79)).alloc (.cells #[.slice none 0 0, .int .i64 0] 81)) from (hbel.out.alloc hbel.out.size _).alloc (HBS.out) _))) | (go_at_call 47; go_loud (refine (HWR.out _).mono ?_; rw [HON.out]; rintro e w4 ⟨a4, n4, c4, h4, rfl, -, hb4⟩; have HB4 := hid (HB2.out.trans (hb4.mono HB2.out.size)); have HT4 := hid (HT2.out.below hb4 HT2.out.lt); have HX4 := hid (HX2.out.below hb4 HX2.out.lt); have x0 := HT4.out.cell 0; have x1 := HT4.out.cell 1; simp only [List.getElem?_cons_zero, List.getElem?_cons_succ] at x0 x1; have z0 := HX4.out.cell 0; have z1 := HX4.out.cell 1; have f0 := HX4.out.ice 0; have f1 := HX4.out.ice 1; simp only [List.getElem?_cons_zero, List.getElem?_cons_succ] at z0 z1; clear hb4)))
        go_ret3
        exact ⟨_, by rw [HP.out]; rfl, by rw [HP.out]; exact (Own.nil .u8 5 0 _).sl, below_two HB4.out HBP.out⟩
      | some y =>
        obtain ⟨bs, h⟩ := y
        have HP := hid (show put18 s = aheadP (j + 1) (x ++ bs) (putF h (s.drop (j + 1))) from by rw [hput.out]; exact aheadP_some ho)
        have hm := one_more18 HIG.out ho
        have HIH := hid hm.2
        have hu := (one_u8 ho).2
        have HBL := hid (And.intro hm.1 (show x.length + bs.length ≤ 700000 from by omega))
        have HXL := hid (show (x ++ bs).length ≤ 6 * (j + 1) from by rw [List.length_append]; omega)
        clear ho hm hu
        go_wp2_with (first | (at_lookup; go_loud (obtain ⟨ok, a2, n2, c2, hh, hlk, hit⟩ := MapP.some' HM1.out HIC.out HIG.out HON.out; refine wpList_lookK rfl _ _ 77 rfl w.heap.size _ rfl rfl hlk ?_; have HIT := hid (fun h => (⟨(hit h).1, ((hit h).2.1).alloc (.cells #[.slice a2 n2 c2, .int .i64 hh] 81), (hit h).2.2⟩ : _ ∧ _ ∧ _)); have HT2 := hid ((Box.made wr 79 [.int .i64 c, .int .i64 g]).alloc (.cells #[.slice a2 n2 c2, .int .i64 hh] 81)); have HX2 := hid (box_last wr (.cells #[.int .i64 c, .int .i64 g] 79) 81 [.slice a2 n2 c2, .int .i64 hh]); have HM2 := hid (HM1.out.below (Below.alloc (Below.refl _ _) (Nat.le_refl _) (.cells #[.slice a2 n2 c2, .int .i64 hh] 81))); have HO2 := hid (HO1.out.alloc (.cells #[.slice a2 n2 c2, .int .i64 hh] 81)); have HB2 := hid (show Below w.heap.size w ((wr.alloc (.cells #[.int .i64 c, .int .i64 g] 79)).alloc (.cells #[.slice a2 n2 c2, .int .i64 hh] 81)) from (hbel.out.alloc hbel.out.size _).alloc (HBS.out) _); clear hlk hit)) | (go_at_call 47; go_loud (refine (HWR.out _).mono ?_; rw [HON.out]; rintro e w4 ⟨a4, n4, c4, h4, rfl, ho4, hb4⟩; have hq4 := (ho4 _ _ rfl).2; obtain rfl := ((ho4 _ _ rfl).1).symm; have HA4 := hid (apt_new HO2.out hq4 (Nat.le_refl _)); have HN4 := hid (hq4.mono HB2.out.size); have HO4 := hid (HO2.out.below hb4); have HM4 := hid (HM2.out.below hb4); have HB4 := hid (HB2.out.trans (hb4.mono HB2.out.size)); have HT4 := hid (HT2.out.below hb4 HT2.out.lt); have HX4 := hid (HX2.out.below hb4 HX2.out.lt); have x0 := HT4.out.cell 0; have x1 := HT4.out.cell 1; simp only [List.getElem?_cons_zero, List.getElem?_cons_succ] at x0 x1; have z0 := HX4.out.cell 0; have z1 := HX4.out.cell 1; have f0 := HX4.out.ice 0; have f1 := HX4.out.ice 1; simp only [List.getElem?_cons_zero, List.getElem?_cons_succ] at z0 z1; have HX5 := hid (HX4.out.two (.slice a4 n4 c4) (.int .i64 h)); have HT5 := hid (HT4.out.far2 HX4.out HNE.out (.slice a4 n4 c4) (.int .i64 h)); have HM5 := hid (HM4.out.two HX4.out (by decide) (.slice a4 n4 c4) (.int .i64 h)); have HO5 := hid (far_two HO4.out HX4.out (by decide) (.slice a4 n4 c4) (.int .i64 h)); have HN5 := hid (far_two HN4.out HX4.out (by decide) (.slice a4 n4 c4) (.int .i64 h)); have HB5 := hid (below_two (a := .slice a4 n4 c4) (b := .int .i64 h) HB4.out (show w.heap.size ≤ wr.heap.size + 1 from HBP.out)); have y0 := HT5.out.cell 0; have y1 := HT5.out.cell 1; have y2 := HX5.out.cell 0; have y3 := HX5.out.cell 1; simp only [List.getElem?_cons_zero, List.getElem?_cons_succ] at y0 y1 y2 y3; clear hb4 ho4 hq4)) | (at_mapUpdate; go_loud (obtain ⟨w6, hst6, hg6, hm6⟩ := MapP.store (c := c) (g := g) HM5.out HIC.out HIG.out HON.out HN5.out HA4.out; refine wpList_storeK rfl _ _ _ 77 rfl w.heap.size (kv c g) (.agg #[.slice a4 n4 c4, .int .i64 h]) rfl rfl rfl hst6 ?_; have HM6 := hid hm6; have HX6 := hid (HX5.out.nomap HM5.out hg6); have HO6 := hid (show Own .u8 5 w.heap.size w6 _ x from World.ownsRow.kept HO5.out hg6 (.inr (HM5.out.noown HO5.out))); have HN6 := hid (show Own .u8 5 w.heap.size w6 (.slice a4 n4 c4) bs from World.ownsRow.kept HN5.out hg6 (.inr (HM5.out.noown HN5.out))); have HB6 := hid (HB5.out.grown hg6 HB5.out.size (fun k hk => by injection hk with hk; omega)); have z0 := HX6.out.cell 0; have z1 := HX6.out.cell 1; have f0 := HX6.out.ice 0; have f1 := HX6.out.ice 1; simp only [List.getElem?_cons_zero, List.getElem?_cons_succ] at z0 z1; clear hst6 hg6 hm6)) | (have _u := HM6; clear _u; at_builtin; go_loud (refine wpList_appI _ rfl _ _ 42 rfl .u8 w.heap.size 5 1 Tryz.underlying42 Tryz.infoU8 _ x bs rfl HO6.out (.slice a4 n4 c4) rfl (HN6.out).sl HBL.out.1 (by have := HBL.out.2; unfold maxLen; omega) (by have := HBL.out.2; omega) HB6.out.size ?_; intro g7 c7 w7 ho7 hg7 hb7 hx7; have HO7 := hid ho7; have HM7 := hid (HM6.out.move (hg7.block _ HM6.out.lt (fun e => HM6.out.noown HO6.out e.symm)) hx7); have HX7 := hid (HX6.out.grown HO6.out hg7 (by decide)); have HB7 := hid (HB6.out.trans hb7); have q0 := HX7.out.cell 0; have q1 := HX7.out.cell 1; simp only [List.getElem?_cons_zero, List.getElem?_cons_succ] at q0 q1; clear ho7 hg7 hb7 hx7)) | (have _u := HM2; clear _u; at_builtin; go_loud (have hok : ok = true := by {have hk := ‹(!ok) = false›; simpa using hk}; refine wpList_appI _ rfl _ _ 42 rfl .u8 w.heap.size 5 1 Tryz.underlying42 Tryz.infoU8 _ x bs rfl HO2.out (.slice a2 n2 c2) rfl ((HIT.out hok).2.1).sl HBL.out.1 (by have := HBL.out.2; unfold maxLen; omega) (by have := HBL.out.2; omega) HB2.out.size ?_; intro g7 c7 w7 ho7 hg7 hb7 hx7; have HO7 := hid ho7; have HM7 := hid (HM2.out.move (hg7.block _ HM2.out.lt (fun e => HM2.out.noown HO2.out e.symm)) hx7); have HX7 := hid (HX2.out.grown HO2.out hg7 (by decide)); have HB7 := hid (HB2.out.trans hb7); have q0 := HX7.out.cell 0; have q1 := HX7.out.cell 1; simp only [List.getElem?_cons_zero, List.getElem?_cons_succ] at q0 q1; clear ho7 hg7 hb7 hx7)))
        · go_roundw
          case rel => exact ⟨j + 1, x ++ bs, h, by omega, HXL.out, HIH.out, rfl, rfl, rfl, by go_num, HO7.out, HM7.out, HB7.out, HP.out⟩
          case measure => simp [intOf]; omega
        · obtain ⟨e7, -⟩ := HIT.out (by have hk := ‹(!ok) = false›; simpa using hk)
          subst e7
          go_roundw
          case rel => exact ⟨j + 1, x ++ bs, _, by omega, HXL.out, HIH.out, rfl, rfl, rfl, by go_num, HO7.out, HM7.out, HB7.out, HP.out⟩
          case measure => simp [intOf]; omega
    · obtain rfl : j = n := by omega
      have HB := hid (show put18 s = .inl x from by rw [hput.out, HN.out, List.drop_length]; simp [putF, aheadP])
      go_wp2
      go_ret3
      exact ⟨_, by rw [HB.out]; rfl, by rw [HB.out]; exact hown.out.sl, hbel.out⟩
end Go.Proofs.YtildhebaikeknaaGreat

/-! StrPut -/
namespace Go.Proofs.YtildhebaikeknaaGreat
open Go.RowKit

theorem strPutOk : SPutOk := strPut utfPutOk widePutOk narPutOk (tePut (shEscape fun s w => csWide s w))
theorem strEncodeIs : SEncOk := strEncodeOk strPutOk
end Go.Proofs.YtildhebaikeknaaGreat

/-! ChoIs -/
namespace Go.Proofs.YtildhebaikeknaaGreat
open Go.RowKit

theorem choFitsOk : CFitsOk := choFits strPutOk
theorem choFirstOk : CFirstOk := choFirst choFitsOk
theorem choLeastOk : CLeastOk := choLeast strEncodeIs
end Go.Proofs.YtildhebaikeknaaGreat

/-! Walks20x -/
namespace Go.Proofs.YtildhebaikeknaaGreat
open Go.RowKit

theorem lawExact20 (k : Int) (u v : Value) (l s : List Int) (w : World) (hk : inI k = true) (hu : Sl .i64 w u l) (hv : Sl .i64 w v s) (hil : l.all inI = true) (his : s.all inI = true) :
    Calls Tryz.prog 3 #[.int .i64 k, u, v] w fun e w' => e = .returned (.bool true) ∧ Below w.heap.size w w' := walkExact20 choFitsOk choFirstOk choLeastOk k u v l s w hk hu hv hil his
end Go.Proofs.YtildhebaikeknaaGreat
