/- Contract of the library's slices.DeleteFunc at rows of three numbers, with package ucd's rule: the walk. -/
import Derived.Test.YtpdcmfnemfopjaaUcd8
import Derived.Test.YtpdcmfnemfopjaaMaps6
namespace Go.Proofs.Ytpdcmfnemfopjaa
open Go.RowKit

theorem Try.infoR3 : (Try.prog.info? 43).map (fun i => (i.zero, i.size, i.bytes)) = some (some (.agg #[.int .i64 0, .int .i64 0, .int .i64 0]), 3, 24) := by kernel_rfl
theorem zero3 (w : World) : (zeroValue 43).run Try.prog w = .ok (.agg #[.int .i64 0, .int .i64 0, .int .i64 0]) w := by
  obtain ⟨i0, hi0, hz0, hz1, hz2⟩ := info_parts Try.infoR3
  simp [zeroValue, typeInfo, hi0, hz0]

set_option maxHeartbeats 4000000 in
theorem slicesDeleteFunc (p : Rg → Bool) (B1 B2 g n cap base : Nat) (l : List Rg) (w : World) (h : OwnG 43 base w (.slice (some ⟨g, 0, none⟩) n cap) l) (hd : DelAt p B1 B2 g w) :
    Calls Try.prog 60 #[.slice (some ⟨g, 0, none⟩) n cap, .func (.func 61) #[] #[.pointer (some ⟨B1, 0, none⟩), .pointer (some ⟨B2, 0, none⟩)]] w fun e w' =>
      ∃ k, e = .returned (.slice (some ⟨g, 0, none⟩) k cap) ∧ OwnG 43 base w' (.slice (some ⟨g, 0, none⟩) k cap) (l.filter fun r => !p r) ∧ w.grownBy w' (some g) := by
  obtain ⟨i0, hi0, hz0, hz1, hz2⟩ := info_parts Try.infoR3
  obtain ⟨hnl, hbg, hnc, hcm, _⟩ := h.block
  have ml : n ≤ 9223372036854775807 := by unfold maxLen at hcm; omega
  have HO := hid h
  have HD := hid hd
  have HNL := hid hnl
  clear h hd hnl
  rcases idxP_cases p l with ⟨hi, hf⟩ | ⟨k0, hk0, hi, hf⟩
  · have HI := hid hi
    have HF := hid hf
    clear hi hf
    go_enter Try.func60, Try.ntmps60
    go_wp2_with (go_at_call 64; refine (slicesIndexFunc p B1 B2 g _ l _ HO.out.sg HD.out).mono ?_; rw [HI.out]; rintro e w1 ⟨rfl, hb1⟩; have HB1 := hid hb1; clear hb1)
    go_ret
    exact ⟨n, rfl, by rw [HF.out]; exact HO.out.below HB1.out, grown_below HB1.out _⟩
  · have HI := hid hi
    have HST := hid (show DelSt p l l k0 (k0 + 1) from ⟨rfl, hf, rfl⟩)
    have hkn : k0 < n := by have := HNL.out; omega
    clear hi hf hk0
    have hb9 : ((k0 : Int) == -1) = false := by
      cases hq : ((k0 : Int) == -1) with
      | false => rfl
      | true => have := eq_of_beq hq; omega
    go_enter Try.func60, Try.ntmps60
    go_wp2_with (go_at_call 64; refine (slicesIndexFunc p B1 B2 g _ l _ HO.out.sg HD.out).mono ?_; rw [HI.out]; rintro e w1 ⟨rfl, hb1⟩; have HB1 := hid hb1; clear hb1)
    go_loopw [5, 6] (fun iv jv wr => ∃ (i j : Nat) (m : List Rg), iv = .int .i64 i ∧ jv = .int .i64 j ∧ i < j ∧ j ≤ n ∧ Hid (OwnG 43 base wr (.slice (some ⟨g, 0, none⟩) n cap) m) ∧ Hid (DelSt p l m i j) ∧ Hid (w.grownBy wr (some g))) (fun _ jv _ => n - (intOf jv).toNat)
    case atStart => exact ⟨k0, k0 + 1, l, rfl, by go_num, by omega, by omega, HO.out.below HB1.out, HST.out, grown_below HB1.out _⟩
    case round =>
      obtain ⟨i, j, m, rfl, rfl, hij, hjn, hown, hst, hgr⟩ := hrel
      by_cases hlt : j < n
      · have hjl : j < l.length := by have := HNL.out; omega
        have hjm : j < m.length := by have := hst.out.1; omega
        obtain ⟨d1, d2, d3, -⟩ := hown.out.at hjm
        have hrow := hst.out.row
        rw [hrow] at d1 d2 d3
        have HGO := hid (hst.out.gone hjl)
        have HKE := hid (hst.out.stays hij hjl)
        have hX := (show g < wr.heap.size from World.block_lt_of_cell? wr _ d1)
        clear hrow hjl
        generalize l.getD j noRg = r at d1 d2 d3 HGO HKE
        obtain ⟨rf, rt, rv⟩ := r
        simp only at d1 d2 d3
        have HBW := hid (show Below wr.heap.size wr (wr.alloc (.cells #[.int .i64 rf, .int .i64 rt, .int .i64 rv] 43)) by (repeat (first | exact Below.refl _ _ | exact below_drewN _ | refine Below.drew ?_ | refine Below.alloc ?_ (by simp) _ | refine Below.setCell ?_ (by simp) _ | refine below_drewN' ?_ _)))
        have HNW := hid (Box.made wr 43 [.int .i64 rf, .int .i64 rt, .int .i64 rv])
        obtain ⟨b, hb⟩ : ∃ b, b = p ⟨rf, rt, rv⟩ := ⟨_, rfl⟩
        rw [← hb] at HGO HKE
        have HC := hid (HD.out (wr.alloc (.cells #[.int .i64 rf, .int .i64 rt, .int .i64 rv] 43)) (grown_trans hgr.out (grown_below HBW.out _)) rf rt rv)
        rw [← hb] at HC
        clear hb hjm
        cases b with
        | true =>
          have hr := hid (HGO.out rfl)
          go_wp2_with (go_at_call 61; refine HC.out.mono ?_; rintro e wu ⟨rfl, hbu⟩; have HBU := hid (HBW.out.trans (hbu.mono HBW.out.size)); clear hbu)
          go_roundw
          case rel => exact ⟨i, j + 1, m, rfl, by go_num, by omega, by omega, hown.out.below HBU.out, hr.out, grown_trans hgr.out (grown_below HBU.out _)⟩
          case measure => simp [intOf]; omega
        | false =>
          have hr := hid (HKE.out rfl)
          have him : i < m.length := by have := hst.out.1; have := HNL.out; omega
          have HIM := hid him
          clear him
          go_wp2_with (go_at_call 61; refine HC.out.mono ?_; rintro e wu ⟨rfl, hbu⟩; have HNU := hid (HNW.out.below hbu HNW.out.lt); have HBU := hid (HBW.out.trans (hbu.mono HBW.out.size)); clear hbu; have HOU := hid (hown.out.below HBU.out); obtain ⟨w0, w1, w2, z0, z1, z2⟩ := HOU.out.at HIM.out; have y2 := HNU.out.cell 0; have y3 := HNU.out.cell 1; have y4 := HNU.out.cell 2; simp only [List.getElem?_cons_zero, List.getElem?_cons_succ] at y2 y3 y4)
          go_roundw
          case rel => exact ⟨i + 1, j + 1, _, by go_num, by go_num, by omega, by omega, HOU.out.put HIM.out ⟨rf, rt, rv⟩, hr.out, grown_trans hgr.out (grown_trans (grown_below HBU.out _) (grown_trans (grown_trans (grown_set _ _ _) (grown_set _ _ _)) (grown_set _ _ _)))⟩
          case measure => simp [intOf]; omega
      · obtain rfl : j = n := by omega
        have HDN := hid (by have := hst.out; rw [HNL.out] at this; exact this.done)
        have hc := fun w => cut3 (P := Try.prog) w 39 43 Try.underlying39 hi0 hz1 g j cap i hij hnc
        obtain ⟨d, hd⟩ : ∃ d, d + 1 = j - i := ⟨j - i - 1, by omega⟩
        rw [← hd] at hc
        have c1 := fun w => (hc w).1.1
        have c2 := fun w => (hc w).1.2
        have c3 := fun w => (hc w).2.1
        have c4 := fun w => (hc w).2.2
        obtain ⟨-, -, -, -, cur, hcg, hcs, hct⟩ := hown.out.block
        have c5 := fun ty => clear3 (P := Try.prog) wr 39 43 ty Try.underlying39 zero3 g (i * 3) d (cap - i) cap cur hcg hcs (by omega)
        obtain ⟨cur', h1, h2, h3, h4⟩ := setCells_heap g 43 (zs3 (d + 1)) (i * 3) wr cur hcg
        have HFIN := hid (show OwnG 43 base (wr.setCells g (i * 3) (zs3 (d + 1))) (.slice (some ⟨g, 0, none⟩) i cap) (l.filter fun r => !p r) by
          have hml : m.length = j := by rw [hst.out.1, ← HNL.out]
          have hl2 : (m.take i).length = i := by rw [List.length_take, hml]; omega
          rw [← HDN.out]
          refine ⟨gv_len _, .inr ⟨g, cap, cur', by rw [hl2], hbg, h1, by rw [hl2]; omega, hcm, by rw [h2]; exact hcs, ?_⟩⟩
          rw [hl2, h3]
          have := congrArg (List.take (i * 3)) hct
          rw [List.take_take, Nat.min_eq_left (by rw [hml]; omega), gv_take] at this
          exact this)
        have HGR := hid (grown_trans hgr.out h4)
        clear hc hd hcg hcs hct h1 h2 h3 h4
        go_wp2_with (fail)
        go_ret
        exact ⟨i, rfl, HFIN.out, HGR.out⟩
end Go.Proofs.Ytpdcmfnemfopjaa
