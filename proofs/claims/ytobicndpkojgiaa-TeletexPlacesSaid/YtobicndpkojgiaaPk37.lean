/- Several texts in one: LawDirect18. -/
import Derived.Test.YtobicndpkojgiaaPk34
import Derived.Test.YtobicndpkojgiaaPk33
import Derived.Test.YtobicndpkojgiaaPk16
import Derived.Test.YtobicndpkojgiaaPk25
import Derived.Test.YtobicndpkojgiaaPk35
import Derived.Test.YtobicndpkojgiaaPk36
import Derived.Test.YtobicndpkojgiaaPk6
/-! LawDirect18 -/
namespace Go.Proofs.Ytobicndpkojgiaa
open Go.RowKit

def codes103 (l : List Rg) : List Rg := l.filter fun r => r.f == 103
theorem codes103_len : (codes103 tabCodes).length ≤ 1000 ∧ 0 < (codes103 tabCodes).length ∧ tabCodes.length ≤ 1000 := by decide +kernel
theorem codes103_next {l : List Rg} {k : Nat} (h : k < l.length) : codes103 (l.take (k + 1)) = if (l.getD k noRg).f = 103 then codes103 (l.take k) ++ [l.getD k noRg] else codes103 (l.take k) := by
  have e : l.getD k noRg = l[k]'h := by rw [List.getD_eq_getElem?_getD, List.getElem?_eq_getElem h]; rfl
  rw [e, List.take_succ_eq_append_getElem h]
  unfold codes103
  rw [List.filter_append]
  by_cases hf : (l[k]'h).f = 103
  · rw [if_pos hf]; simp [hf]
  · rw [if_neg hf]; simp [hf]
theorem getD_mem18 {l : List Rg} {j : Nat} (h : j < l.length) : l.getD j noRg ∈ l := by
  rw [List.getD_eq_getElem?_getD, List.getElem?_eq_getElem h]
  exact List.getElem_mem h
theorem Sg.open18 {w : World} {v : Value} {l : List Rg} (h : Sg w v l) (h0 : 0 < l.length) : ∃ b o c, v = .slice (some ⟨b, o, none⟩) l.length c ∧ l.length ≤ c ∧ ∀ i, i < l.length → w.cell? ⟨b, o + i * 3, none⟩ = some (.int .i64 (l.getD i noRg).f) ∧ w.cell? ⟨b, o + i * 3 + 1, none⟩ = some (.int .i64 (l.getD i noRg).t) ∧ w.cell? ⟨b, o + i * 3 + 2, none⟩ = some (.int .i64 (l.getD i noRg).v) := by
  obtain ⟨a, c, rfl, h1, -, h⟩ := h
  rcases h with h | ⟨b, o, rfl, -, hc⟩
  · omega
  · exact ⟨b, o, c, rfl, h1, hc⟩
/-- a read's three results -/
def readV (xs : List Int) (at_ e : Int) : Fact := ⟨fun v w => ∃ x, v = .tuple #[x, .int .i64 at_, .int .i64 e] ∧ Sl .i64 w x xs, fun _ _ _ ⟨x, h1, h2⟩ hb => ⟨x, h1, h2.below hb⟩⟩

set_option profiler true
set_option profiler.threshold 500
set_option maxRecDepth 20000 in
set_option maxHeartbeats 4000000 in
theorem walkDirect18 (HR : TReadOk) (HP : TPutOk) (HH : THasOk) (at_ which : Int) (w : World) :
    Calls Try.prog 9 #[.int .i64 at_, .int .i64 which] w fun e w' => e = .returned (.bool true) ∧ Below w.heap.size w w' := by
  obtain ⟨i0, hi0, hz0, hz1, hz2⟩ := info_parts Try.infoCd
  have HW := hid (fun w => lawWakes18 HR HP HH w)
  obtain ⟨L, hL⟩ : ∃ L, L = tabCodes := ⟨_, rfl⟩
  obtain ⟨n, hn⟩ : ∃ n, n = L.length := ⟨_, rfl⟩
  obtain ⟨D, hD⟩ : ∃ D, D = codes103 L := ⟨_, rfl⟩
  obtain ⟨m, hm⟩ : ∃ m, m = D.length := ⟨_, rfl⟩
  have hlens := codes103_len
  rw [← hL, ← hD, ← hm, ← hn] at hlens
  obtain ⟨hm1, hm0, hn1⟩ := hlens
  obtain ⟨K, hK, hK1, hK2⟩ := ix_rem at_ (m : Int) (by omega) (by omega)
  obtain ⟨j, rfl⟩ : ∃ j : Nat, K = (j : Int) := ⟨K.toNat, by omega⟩
  obtain ⟨K6, hK6, hK61, hK62⟩ := ix_rem which 6 (by omega) (by omega)
  obtain ⟨j6, rfl⟩ : ∃ j : Nat, K6 = (j : Int) := ⟨K6.toNat, by omega⟩
  have wn : IntKind.u64.wrap (m : Int) = (m : Int) := by simp only [IntKind.wrap, IntKind.bits, IntKind.signed]; simp; omega
  have hne : ((m : Int) == 0) = false := by simp; omega
  have HC := hid (fun w => apiCodes w)
  rw [← hL] at HC
  have HS6 := hid (fun w => (apiSets w).mono fun e w' (h : ∃ v, e = .returned v ∧ Own .i64 3 w.heap.size w' v tabSets ∧ Below w.heap.size w w') => (show ∃ b o c, e = .returned (.slice (some ⟨b, o, none⟩) 6 c) ∧ 6 ≤ c ∧ w'.cell? ⟨b, o + j6, none⟩ = some (.int .i64 (tabSets.getD j6 0)) ∧ Below w.heap.size w w' from by
    obtain ⟨v, rfl, h1, h2⟩ := h
    obtain ⟨a, c, hv, hl, -, hh⟩ := h1.sl
    rcases hh with hh | ⟨b, o, ha, -, hc⟩
    · have : tabSets.length = 6 := rfl
      omega
    · exact ⟨b, o, c, by rw [hv, ha]; rfl, hl, hc j6 (by show j6 < 6; omega), h2⟩))
  have HL := hid hL
  have HN := hid hn
  have HD := hid hD
  have HM := hid hm
  clear hn hm hD hL
  go_enter Try.func9, Try.ntmps9
  go_wp2_with (go_at_call 16; refine (HC.out _).mono ?_; rintro e w1 ⟨v1, rfl, ho1, hb1⟩; have HB1 := hid hb1; have HSG := hid ho1.sg; obtain ⟨a1, c1, hv1⟩ := ho1.form; rw [← HN.out] at hv1; subst hv1; clear ho1 hb1)
  go_loopw [5, 7] (fun lv iv wr => ∃ k : Nat, k ≤ n ∧ iv = .int .i64 k ∧ Hid (OwnG 38 w1.heap.size wr lv (codes103 (L.take k))) ∧ Hid (Below w1.heap.size w1 wr)) (fun _ iv _ => n - (intOf iv).toNat)
  case atStart => exact ⟨0, by omega, rfl, OwnG.nil _ _ _, Below.refl _ _⟩
  case round =>
    obtain ⟨k, hk, rfl, hown, hbel⟩ := hrel
    by_cases hlt : k < n
    · obtain ⟨av0, cap0, hv0, hq0, -, c0⟩ := HSG.out
      injection hv0 with hv1 hv2 hv3
      subst hv1 hv3
      rcases c0 with hc | ⟨b1, o1, rfl, hb1, c1⟩
      · have := HN.out
        omega
      have hb1' := hb1 (by have := HN.out; omega)
      obtain ⟨d1, d2, d3⟩ := c1 k (by have := HN.out; omega)
      have d1 := (hbel.out.cell (p := ⟨b1, o1 + k * 3, none⟩) hb1').trans d1
      have d2 := (hbel.out.cell (p := ⟨b1, o1 + k * 3 + 1, none⟩) hb1').trans d2
      have d3 := (hbel.out.cell (p := ⟨b1, o1 + k * 3 + 2, none⟩) hb1').trans d3
      have HUP := hid (codes103_next (l := L) (k := k) (by have := HN.out; omega))
      have HLEN := hid (show (codes103 (L.take k)).length ≤ k from Nat.le_trans (List.length_filter_le _ _) (by rw [List.length_take]; omega))
      clear c1 hv2
      generalize L.getD k noRg = r at d1 d2 d3 HUP
      obtain ⟨rf, rt, rv⟩ := r
      simp only at d1 d2 d3 HUP
      by_cases hf : rf = 103
      · have HU2 := hid (show codes103 (L.take (k + 1)) = codes103 (L.take k) ++ [⟨rf, rt, rv⟩] from by rw [HUP.out, if_pos hf])
        have e1 : (rf == 103) = true := by simpa using hf
        clear hf HUP
        obtain ⟨M, hM⟩ : ∃ M, M = codes103 (L.take k) := ⟨_, rfl⟩
        rw [← hM] at hown HLEN HU2
        clear hM
        obtain ⟨la, lc, hlv⟩ := hown.out.form
        obtain ⟨nm, hnm⟩ : ∃ nm, nm = M.length := ⟨_, rfl⟩
        have HNM := hid hnm
        rw [← hnm] at hlv
        subst hlv
        clear hnm
        go_wp2_with (at_builtin; go_loud (refine wpList_appG _ rfl _ _ 35 rfl w1.heap.size 38 24 i0 (.agg #[.int .i64 0, .int .i64 0, .int .i64 0]) Try.underlying35 hi0 hz0 hz1 hz2 rfl _ M rfl (hown.out.below (by (repeat (first | exact Below.refl _ _ | exact below_drewN _ | refine Below.drew ?_ | refine Below.alloc ?_ (by simp) _ | refine Below.setCell ?_ (by simp) _ | refine below_drewN' ?_ _)))) wr.heap.size ⟨rf, rt, rv⟩ rfl ⟨by rw [cell_of_row _ wr.heap.size 0 _ 38 (0, 0) (heap_alloc_new _ _)]; rfl, by rw [cell_of_row _ wr.heap.size 1 _ 38 (0, 0) (heap_alloc_new _ _)]; rfl, by rw [cell_of_row _ wr.heap.size 2 _ 38 (0, 0) (heap_alloc_new _ _)]; rfl⟩ (by have := HLEN.out; unfold maxLen; omega) (by have := HLEN.out; omega) (by have := hbel.out.size; simp; omega) ?_); intro g6 c6 w6 ho6 hb6; have HO6 := hid ho6; have HB6 := hid ((hbel.out.alloc hbel.out.size _).trans hb6); clear ho6 hb6)
        go_roundw
        case rel => exact ⟨k + 1, by omega, by go_num, by show OwnG _ _ _ _ _; rw [HU2.out]; exact HO6.out, HB6.out⟩
        case measure => simp [intOf]; omega
      · have HU2 := hid (show codes103 (L.take (k + 1)) = codes103 (L.take k) from by rw [HUP.out, if_neg hf])
        have e1 : (rf == 103) = false := by simpa using hf
        clear hf HUP
        go_wp2_with (fail)
        go_roundw
        case rel => exact ⟨k + 1, by omega, by go_num, by show OwnG _ _ _ _ _; rw [HU2.out]; exact hown.out, hbel.out⟩
        case measure => simp [intOf]; omega
    · obtain rfl : k = n := by omega
      have hO := hown.out
      rw [List.take_of_length_le (by have := HN.out; omega), ← HD.out] at hO
      have HO := hid hO
      obtain ⟨b1, o1, c1, hlv, hc1, hcell⟩ := Sg.open18 hO.sg (by have := HM.out; omega)
      rw [← HM.out] at hlv hc1 hcell
      subst hlv
      obtain ⟨d1, d2, d3⟩ := hcell j (by omega)
      have HX := hid (show D.getD j noRg ∈ D from getD_mem18 (by have := HM.out; omega))
      generalize hgr : D.getD j noRg = r at d1 d2 d3 HX
      obtain ⟨rf, rt, rv⟩ := r
      simp only at d1 d2 d3
      have hmem : (⟨rf, rt, rv⟩ : Rg) ∈ tabCodes ∧ rf = 103 := by
        have h := HX.out
        rw [HD.out, HL.out] at h
        unfold codes103 at h
        rw [List.mem_filter] at h
        exact ⟨h.1, by simpa using h.2⟩
      have hrow := code_row hmem.1
      have hrt : 33 ≤ rt ∧ rt ≤ 126 := by
        obtain ⟨-, -, h87, h1, h2, h3, -⟩ := hrow
        simp only at h87 h1 h2 h3
        rw [hmem.2] at h87
        have : decide (255 < rt) = false := by rw [← h87]; rfl
        have := of_decide_eq_false this
        omega
      have GR := hid (fun set v w (hs : set ∈ tabSets) (h : Sl .u8 w v (escP 0 set ++ [rt + 128])) => (show Calls Try.prog 13 #[v] w fun e w' => ∃ x, e = .returned (.tuple #[x, .int .i64 0, .int .i64 0]) ∧ Sl .i64 w' x [rv] ∧ Below w.heap.size w w' from by
        have h1 := HR v (escP 0 set ++ [rt + 128]) w h ((esc_u8 (by decide) (by decide) (set_ne hs)).append (by intro x hx; simp only [List.mem_singleton] at hx; omega)) (by have := esc_len 0 set; rw [List.length_append]; simp; omega)
        rw [direct_read (r := ⟨rf, rt, rv⟩) hmem.1 hmem.2 hs] at h1
        exact h1))
      clear hrow hmem
      have HBE := hid (HB1.out.trans (hbel.out.mono HB1.out.size))
      have q3 : b1 < wr.heap.size := World.block_lt_of_cell? wr _ d1
      clear hO hcell hgr hown hbel
      go_upto_region 12 with (go_at_call 24; refine (HS6.out _).mono ?_; rintro e w2 ⟨b2, o2, c2, rfl, hc2, s1, hb2⟩; have HB2 := hid (HBE.out.trans (hb2.mono HBE.out.size)); have d1 := (hb2.cell (p := ⟨b1, o1 + j * 3, none⟩) q3).trans d1; have d2 := (hb2.cell (p := ⟨b1, o1 + j * 3 + 1, none⟩) q3).trans d2; have d3 := (hb2.cell (p := ⟨b1, o1 + j * 3 + 2, none⟩) q3).trans d3; clear hb2)
      obtain ⟨B, hB⟩ : ∃ B, B = w2.heap.size := ⟨_, rfl⟩
      obtain ⟨W, hW⟩ : ∃ W, W = w2.alloc (.cells #[.int .i64 rf, .int .i64 rt, .int .i64 rv] 38) := ⟨_, rfl⟩
      have HX0 := hid (show Box 38 [.int .i64 rf, .int .i64 rt, .int .i64 rv] B W by rw [hW, hB]; exact Box.made w2 38 [.int .i64 rf, .int .i64 rt, .int .i64 rv])
      have HB0 := hid (show Below w.heap.size w W by rw [hW]; exact HB2.out.alloc HB2.out.size _)
      have s1 : W.cell? ⟨b2, o2 + j6, none⟩ = some (.int .i64 (tabSets.getD j6 0)) := by rw [hW]; exact (((Below.refl w2.heap.size w2).alloc (Nat.le_refl _) _).cell (World.block_lt_of_cell? w2 _ s1)).trans s1
      rw [← hW, ← hB]
      generalize hset : tabSets.getD j6 0 = set at s1
      have HMS := hid (show set ∈ tabSets from by rw [← hset]; rw [List.getD_eq_getElem?_getD, List.getElem?_eq_getElem (by show j6 < 6; omega)]; exact List.getElem_mem _)
      clear hW hB d1 d2 d3 hset q3
      go_upto_region 13 with (fail)
      have y1 := HX0.out.cell 1
      simp only [List.getElem?_cons_succ, List.getElem?_cons_zero] at y1
      have HY := hid (fun w' (hb : Below W.drew.heap.size W.drew w') => (show w'.cell? ⟨B, 1, none⟩ = some (.int .i64 rt) from (hb.cell HX0.out.lt).trans y1))
      refine region_facts [isV (.int .i64 set), ownV .u8 5 W.heap.size (escP 0 set), isV (.pointer (some ⟨B, 1, none⟩)), isV (.int .i64 rt), isV (.int .i64 (rt + 128)), isV (.int .u8 (rt + 128)), slV .u8 [rt + 128]] 9 (by kernel_rfl) (by kernel_rfl) (by kernel_rfl) (obls_cons ?_ (obls_cons ?_ (obls_cons ?_ (obls_cons ?_ (obls_cons ?_ (obls_cons ?_ (obls_cons ?_ obls_nil))))))) ?_
      · intro vs A w' hA hb hd
        have e0 : A.eval (.tmp 10) = .int .i64 set := ev0A hA (by kernel_rfl)
        exact fact_val rfl (exec_moveF rfl e0) rfl
      · intro vs A w' hA hb hd
        have h0 : vs 0 = .int .i64 set := hd 0 (by omega) (by kernel_rfl)
        have e0 : A.eval (.tmp 64) = .int .i64 set := (evA (j := 0) hA (by kernel_rfl) (by kernel_rfl)).trans h0
        refine fact_call rfl (exec_callF (args := [.int .i64 0, .int .i64 set]) rfl (by simp only [List.map_cons, List.map_nil]; rw [e0]; rfl) Try.func17 (by kernel_rfl) rfl) ((refEsc 0 set w' (by decide) (by decide) (set_ne HMS.out)).mono ?_)
        rintro e w'' ⟨x, rfl, h1, h2⟩
        exact ⟨x, rfl, h1.mono hb.size, h2⟩
      · intro vs A w' hA hb hd
        have e0 : A.eval (.tmp 9) = .pointer (some ⟨B, 0, none⟩) := ev0A hA (by kernel_rfl)
        exact fact_val rfl (exec_fieldF rfl e0 (by kernel_rfl)) rfl
      · intro vs A w' hA hb hd
        have h0 : vs 2 = .pointer (some ⟨B, 1, none⟩) := hd 2 (by omega) (by kernel_rfl)
        have e0 : A.eval (.tmp 66) = .pointer (some ⟨B, 1, none⟩) := (evA (j := 2) hA (by kernel_rfl) (by kernel_rfl)).trans h0
        exact fact_val rfl (exec_int rfl e0 (HY.out w' hb)) rfl
      · intro vs A w' hA hb hd
        have h0 : vs 3 = .int .i64 rt := hd 3 (by omega) (by kernel_rfl)
        have e0 : A.eval (.tmp 67) = .int .i64 rt := (evA (j := 3) hA (by kernel_rfl) (by kernel_rfl)).trans h0
        refine fact_val rfl (exec_binF rfl e0 rfl ?_) rfl
        go_simp
        simp only [IntKind.wrap, IntKind.bits, IntKind.signed]; simp; omega
      · intro vs A w' hA hb hd
        have h0 : vs 4 = .int .i64 (rt + 128) := hd 4 (by omega) (by kernel_rfl)
        have e0 : A.eval (.tmp 68) = .int .i64 (rt + 128) := (evA (j := 4) hA (by kernel_rfl) (by kernel_rfl)).trans h0
        refine fact_val rfl (exec_convF rfl e0 ?_) rfl
        go_simp
        simp only [IntKind.wrap, IntKind.bits, IntKind.signed]; simp; omega
      · intro vs A w' hA hb hd
        have h0 : vs 5 = .int .u8 (rt + 128) := hd 5 (by omega) (by kernel_rfl)
        have e0 : A.eval (.tmp 69) = .int .u8 (rt + 128) := (evA (j := 5) hA (by kernel_rfl) (by kernel_rfl)).trans h0
        exact fact_new rfl (exec_lit (xs := [rt + 128]) rfl Try.underlying23 Try.infoU8 (by simp only [List.map_cons, List.map_nil]; rw [e0]; rfl) rfl (by decide) (by decide)) (by (repeat (first | exact Below.refl _ _ | exact below_drewN _ | refine Below.drew ?_ | refine Below.alloc ?_ (by simp) _ | refine Below.setCell ?_ (by simp) _ | refine below_drewN' ?_ _))) (lit_sl rfl rfl rfl (by simp))
      intro vs w3 hb3 hk
      obtain ⟨-, k1, -, -, -, -, k6, -⟩ := hk
      have k1 : Own .u8 5 W.heap.size w3 (vs 1) (escP 0 set) := k1
      have k6 : Sl .u8 w3 (vs 6) [rt + 128] := k6
      refine any_step rfl (by kernel_rfl) ?_
      have HB3 := hid (HB0.out.trans ((((Below.refl W.heap.size W).drew).trans hb3).mono HB0.out.size))
      have hs3 : W.heap.size ≤ w3.heap.size := hb3.size
      have hxl := esc_len 0 set
      generalize hA : upTo _ 0 _ vs _ = A
      have hsz : A.tmps.size = 88 := size_upTo (by kernel_rfl) hA.symm
      refine wpList_app w3 rfl (.tmp 65) (.tmp 70) 23 rfl .u8 W.heap.size 5 1 Try.underlying23 Try.infoU8 (vs 1) (escP 0 set) [rt + 128] (evA (j := 1) hA.symm (by kernel_rfl) (by kernel_rfl)) k1 (vs 6) (evA (j := 6) hA.symm (by kernel_rfl) (by kernel_rfl)) k6 (by unfold maxLen; simp; omega) (by simp; omega) hs3 ?_
      intro v7 w4 ho7 hg7 hb7 hn7
      refine goesOn_normal (any_facts (m0 := 8) (fuel := 0) [readV [rv] 0 0, readV [rv] 0 0, slV .i64 [rv], isV (.int .i64 0), isV (.int .i64 0), slV .i64 [rv], isV (.int .i64 0), isV (.int .i64 0)] (by kernel_rfl) (obls_cons ?_ (obls_cons ?_ (obls_cons ?_ (obls_cons ?_ (obls_cons ?_ (obls_cons ?_ (obls_cons ?_ (obls_cons ?_ obls_nil)))))))) ?_)
      · intro vs2 A2 w' hA2 hb hd
        have e0 : A2.eval (.tmp 71) = v7 := (ev0A hA2 (by kernel_rfl)).trans (put_at hsz (by kernel_rfl))
        refine fact_call rfl (exec_callF (args := [v7]) rfl (by simp only [List.map_cons, List.map_nil]; rw [e0]) Try.func13 (by kernel_rfl) rfl) ((GR.out set v7 w' HMS.out (ho7.sl.below hb)).mono ?_)
        rintro e w'' ⟨x, rfl, h1, h2⟩
        exact ⟨_, rfl, ⟨x, rfl, h1⟩, h2⟩
      · intro vs2 A2 w' hA2 hb hd
        have h0 : (readV [rv] 0 0).1 (vs2 8) w' := hd 8 (by omega) (by kernel_rfl)
        exact fact_val rfl (exec_moveF rfl (evS (j := 8) (size_put hsz) hA2 (by kernel_rfl) (by kernel_rfl))) h0
      · intro vs2 A2 w' hA2 hb hd
        obtain ⟨x, h0, h1⟩ : (readV [rv] 0 0).1 (vs2 9) w' := hd 9 (by omega) (by kernel_rfl)
        exact fact_val rfl (exec_extract rfl ((evS (j := 9) (size_put hsz) hA2 (by kernel_rfl) (by kernel_rfl)).trans h0) rfl) h1
      · intro vs2 A2 w' hA2 hb hd
        obtain ⟨x, h0, h1⟩ : (readV [rv] 0 0).1 (vs2 9) w' := hd 9 (by omega) (by kernel_rfl)
        exact fact_val rfl (exec_extract rfl ((evS (j := 9) (size_put hsz) hA2 (by kernel_rfl) (by kernel_rfl)).trans h0) rfl) rfl
      · intro vs2 A2 w' hA2 hb hd
        obtain ⟨x, h0, h1⟩ : (readV [rv] 0 0).1 (vs2 9) w' := hd 9 (by omega) (by kernel_rfl)
        exact fact_val rfl (exec_extract rfl ((evS (j := 9) (size_put hsz) hA2 (by kernel_rfl) (by kernel_rfl)).trans h0) rfl) rfl
      · intro vs2 A2 w' hA2 hb hd
        have h0 : Sl .i64 w' (vs2 10) [rv] := hd 10 (by omega) (by kernel_rfl)
        exact fact_val rfl (exec_assign rfl (evS (j := 10) (size_put hsz) hA2 (by kernel_rfl) (by kernel_rfl))) h0
      · intro vs2 A2 w' hA2 hb hd
        have h0 : vs2 11 = .int .i64 0 := hd 11 (by omega) (by kernel_rfl)
        exact fact_val rfl (exec_assign rfl ((evS (j := 11) (size_put hsz) hA2 (by kernel_rfl) (by kernel_rfl)).trans h0)) rfl
      · intro vs2 A2 w' hA2 hb hd
        have h0 : vs2 12 = .int .i64 0 := hd 12 (by omega) (by kernel_rfl)
        exact fact_val rfl (exec_assign rfl ((evS (j := 12) (size_put hsz) hA2 (by kernel_rfl) (by kernel_rfl)).trans h0)) rfl
      intro vs2 w5 hb5 hk
      obtain ⟨-, -, -, -, -, k13, k14, k15, -⟩ := hk
      refine any_over rfl ?_
      have hs4 : W.heap.size ≤ w4.heap.size := Nat.le_trans hs3 (hg7.size)
      have HB5 := hid ((HB3.out.trans (hb7.mono HB0.out.size)).trans (hb5.mono (Nat.le_trans HB0.out.size hs4)))
      have HX5 := hid (HX0.out.below (((((Below.refl W.heap.size W).drew).trans hb3).trans hb7).trans (hb5.mono hs4)) HX0.out.lt)
      have k13 : Sl .i64 w5 (vs2 13) [rv] := k13
      have k14 : vs2 14 = .int .i64 0 := k14
      have k15 : vs2 15 = .int .i64 0 := k15
      subst hA
      simp only [upTo, dstOf, Act.put, List.getElem?_toArray, List.getElem?_cons_zero, List.getElem?_cons_succ, Option.bind_some, List.setIfInBounds_toArray, List.set_cons_zero, List.set_cons_succ, Nat.reduceLeDiff, Nat.reduceAdd, Nat.le_refl, Nat.zero_le, if_true, if_false, List.length_cons, List.length_nil]
      rw [k14, k15]
      obtain ⟨b8, o8, c8, hv8, -⟩ := k13.one
      have HS8 := hid k13
      rw [hv8] at HS8 ⊢
      generalize vs2 8 = z8
      generalize vs2 9 = z9
      generalize vs2 10 = z10
      generalize vs2 11 = z11
      generalize vs2 12 = z12
      have y2 := HX5.out.cell 2
      simp only [List.getElem?_cons_succ, List.getElem?_cons_zero] at y2
      clear k13 k14 k15 hb5 hb7 hg7 hn7 ho7 k1 k6 hb3 HY y1 hs4 hs3
      go_wp2_with (first
        | (have _u := HB6; clear _u; go_at_call 12; refine (HW.out _).mono ?_; rintro e w7 ⟨rfl, hb7⟩; have HB7 := hid (HB6.out.trans (hb7.mono HB6.out.size)); clear hb7)
        | (go_at_call 14; refine (keepInts _ _ [rv] [rv] _ (HS8.out.below (by (repeat (first | exact Below.refl _ _ | exact below_drewN _ | refine Below.drew ?_ | refine Below.alloc ?_ (by simp) _ | refine Below.setCell ?_ (by simp) _ | refine below_drewN' ?_ _)))) (lit_sl (by first | simp | rfl) rfl rfl (by simp))).mono ?_; rw [eqL_self]; rintro e w6 ⟨rfl, n6, hw6⟩; have HB6 := hid (show Below w.heap.size w w6 by rw [hw6]; exact below_drewN' (HB5.out.alloc HB5.out.size _) n6); clear hw6))
      go_ret
      exact ⟨rfl, HB7.out⟩
end Go.Proofs.Ytobicndpkojgiaa
