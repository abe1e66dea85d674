/- Contract of package ranges' fill: the values of one group of numbers, and the ranges that reach beyond it. -/
import Derived.Test.YtlngnmcflooccaaRngPack
import Derived.Test.YtlngnmcflooccaaKeepG
import Derived.Test.YtlngnmcflooccaaGrow
import Derived.Test.YtlngnmcflooccaaRefRng5
import Derived.BigRegion
namespace Go.Proofs.Ytlngnmcflooccaa
open Go.RowKit

/-- v[i:] of ranges, as a run equation of every world -/
theorem cutG_from {P : Program} (t e : TypeId) (ht : P.underlying t = some (.slice e)) {z : Value} {bytes : Nat} (hinfo : (P.info? e).map (fun i => (i.zero, i.size, i.bytes)) = some (some z, 3, bytes))
    (a : Option Addr) (n cap lo : Nat) (hlo : lo ≤ n) (hcap : n ≤ cap) :
    ∃ v', (∀ w, (Instr.sliceAt t (.slice a n cap) (some (.int .i64 lo)) none none).run P w = .ok v' w) ∧ (∀ w, (Instr.slice t (.slice a n cap) (some (.int .i64 lo)) none none).run P w = .ok v' w) ∧ ∀ w (l : List Rg), n = l.length → Sg w (.slice a n cap) l → Sg w v' (l.drop lo) := by
  obtain ⟨i, hi', hz0, hz1, hz2⟩ := info_parts hinfo
  refine ⟨.slice (if cap = lo then a else a.map (·.add (lo * 3))) (n - lo) (cap - lo), fun w => ?_, fun w => ?_, fun w l hn hs => ?_⟩
  · have e1 : (0 : Int) ≤ (lo : Int) ∧ (lo : Int) ≤ (n : Int) := by omega
    simp [Instr.sliceAt, Instr.slice, run_underlying ht, Instr.sliceBounds, Instr.sliceBound, asIntOf, sizeOf, typeInfo, hi', hz1, e1]
    intro hx; omega
  · have e1 : (0 : Int) ≤ (lo : Int) ∧ (lo : Int) ≤ (n : Int) := by omega
    simp [Instr.slice, run_underlying ht, Instr.sliceBounds, Instr.sliceBound, asIntOf, sizeOf, typeInfo, hi', hz1, e1]
    intro hx; omega
  · obtain ⟨a', cap', he, hl, hm, hc⟩ := hs
    injection he with he1 he2 he3
    subst he1 he3
    have hlen : (l.drop lo).length = l.length - lo := by simp
    rcases hc with rfl | ⟨b, off, rfl, hbb, hc⟩
    · refine ⟨_, 0 - lo, by rw [hlen, ← hn], by rw [hlen]; omega, by omega, .inl (by omega)⟩
    · refine ⟨_, cap - lo, by rw [hlen, ← hn], by rw [hlen]; omega, by omega, ?_⟩
      by_cases hx : cap = lo
      · exact .inl (by omega)
      · refine .inr ⟨b, off + lo * 3, by rw [if_neg hx]; simp [Addr.add], fun h0 => hbb (by omega), fun j hj => ?_⟩
        rw [hlen] at hj
        have := hc (lo + j) (by omega)
        rw [show (l.drop lo).getD j noRg = l.getD (lo + j) noRg by simp [List.getD_eq_getElem?_getD, List.getElem?_drop], show off + lo * 3 + j * 3 = off + (lo + j) * 3 by omega]
        exact this

/-- a block's numbers as cells -/
def uv (ys : List Int) : List Value := ys.map (Value.int .u16)
theorem uv_len (ys : List Int) : (uv ys).length = ys.length := by simp [uv]
theorem uv_at {ys : List Int} {i : Nat} (h : i < ys.length) : (uv ys)[i]? = some (.int .u16 (ys.getD i 0)) := by
  simp [uv, List.getD_eq_getElem?_getD, List.getElem?_eq_getElem h]
theorem uv_set (ys : List Int) (i : Nat) (v : Int) : (uv ys).set i (.int .u16 v) = uv (ys.set i v) := by simp [uv, List.map_set]
theorem grow_drew {a w : World} {r : Option Nat} (h : a.grownBy w r) : a.grownBy w.drew r := ⟨h.os, h.tape, h.output, h.size, h.block⟩
theorem wrap_u16 {x : Int} (h0 : 0 ≤ x) (h1 : x ≤ 65535) : IntKind.u16.wrap x = x := by
  rw [show IntKind.u16.wrap x = x % 65536 from rfl]; omega

set_option maxHeartbeats 8000000 in
set_option maxRecDepth 100000 in
theorem rngFill (w0 : World) (v : Value) (L : List Rg) (a k B : Nat) (w : World) (hv : Sg w0 v (L.drop a)) (ha : a ≤ L.length) (hok : okL (-1) L) (hL : L.length ≤ 2000) (hpre : ∀ j, j < a → (L.getD j noRg).t < 256 * (k : Int)) (hk : k < 4352)
    (hbx : Box 52 (uv (con 0)) B w) (hw : Below w0.heap.size w0 w) (hB : w0.heap.size ≤ B) :
    Calls Try.prog 21 #[.pointer (some ⟨B, 0, none⟩), .int .i64 ((256 * k : Nat) : Int), v] w fun e w' => ∃ v', e = .returned v' ∧ (∃ a', Sg w0 v' (L.drop a') ∧ a' ≤ L.length ∧ ∀ j, j < a' → (L.getD j noRg).t < 256 * ((k + 1 : Nat) : Int)) ∧ Box 52 (uv (blk (tabG L) k)) B w' ∧ w.grownBy w' (some B) := by
  have HSG := hid hv
  obtain ⟨a1, cap1, rfl, q1, -, h1⟩ := hv
  obtain ⟨n, hn⟩ : ∃ n, n = (L.drop a).length := ⟨_, rfl⟩
  rw [← hn] at q1 h1 HSG ⊢
  have hnl : n = L.length - a := by rw [hn, List.length_drop]
  have HNL := hid hnl
  have HN := hid hn
  have HOK := hid hok
  have HPRE := hid hpre
  have HRD : Hid (∀ wz, w.grownBy wz (some B) → ∀ i, i < n → ∃ b o, a1 = some ⟨b, o, none⟩ ∧ wz.cell? ⟨b, o + i * 3, none⟩ = some (.int .i64 (L.getD (a + i) noRg).f) ∧ wz.cell? ⟨b, o + i * 3 + 1, none⟩ = some (.int .i64 (L.getD (a + i) noRg).t) ∧ wz.cell? ⟨b, o + i * 3 + 2, none⟩ = some (.int .i64 (L.getD (a + i) noRg).v)) := hid (fun wz hg i hi => by
    have hb := hw.grown hg hw.size (fun k hk => by injection hk with hk; omega)
    rcases h1 with hc | ⟨b, o, he, hbb, hc⟩
    · omega
    · obtain ⟨d1, d2, d3⟩ := hc i hi
      rw [show (L.drop a).getD i noRg = L.getD (a + i) noRg by simp [List.getD_eq_getElem?_getD, List.getElem?_drop]] at d1 d2 d3
      have hlt := hbb (by omega)
      exact ⟨b, o, he, (hb.cell (p := ⟨b, o + i * 3, none⟩) hlt).trans d1, (hb.cell (p := ⟨b, o + i * 3 + 1, none⟩) hlt).trans d2, (hb.cell (p := ⟨b, o + i * 3 + 2, none⟩) hlt).trans d3⟩)
  have HBX := hid hbx
  obtain ⟨kb, hkb⟩ : ∃ kb, kb = 256 * k := ⟨_, rfl⟩
  rw [← hkb]
  obtain ⟨ke, hke⟩ : ∃ ke, ke = kb + 256 := ⟨_, rfl⟩
  obtain ⟨kf, hkf⟩ : ∃ kf, kf = kb + 255 := ⟨_, rfl⟩
  have wk1 : (kb : Int) + 256 = (ke : Int) := by omega
  have wk2 : (ke : Int) - 1 = (kf : Int) := by omega
  have HKE := hid (show ke = kb + 256 ∧ kf = kb + 255 ∧ kb = 256 * k ∧ k < 4352 from ⟨hke, hkf, hkb, hk⟩)
  have hken : ke ≤ 1200000 := by omega
  have hn2 : n ≤ 2000 := by omega
  clear hn hnl hok hpre h1 hbx hw hke hkf hkb hk
  go_enter Try.func21, Try.ntmps21
  go_wp2_with (fail)
  clear wk1 wk2
  go_loopw [16] (fun iv_ wr => ∃ (i : Nat) (ys : List Int), iv_ = .int .i64 i ∧ i ≤ n ∧ Hid (ys.length = 256 ∧ ∀ j, j < 256 → ys.getD j 0 = lookS (L.take (a + i)) ((kb : Int) + j)) ∧ Hid (∀ j, j < a + i → (L.getD j noRg).t < (ke : Int)) ∧ Hid (Box 52 (uv ys) B wr) ∧ Hid (w.grownBy wr (some B))) (fun iv_ _ => n - (intOf iv_).toNat)
  case atStart => exact ⟨0, con 0, rfl, by omega, ⟨con_len 0, fun j hj => by rw [con_at hj]; exact (pk_start (b := (kb : Int)) (fun j hj => by have := HPRE.out j hj; have := HKE.out; omega) (by omega)).symm⟩, fun j hj => by have := HPRE.out j hj; have := HKE.out; omega, HBX.out, ⟨rfl, rfl, rfl, Nat.le_refl _, fun _ _ _ => rfl⟩⟩
  case round =>
    clear HPRE HBX
    obtain ⟨i, ys, rfl, hin, hys, hpass, hbx, hgr⟩ := hrel
    by_cases hi : i < n
    · obtain ⟨b1, o1, rfl, d1, d2, d3⟩ := HRD.out _ hgr.out i hi
      have hai : a + i < L.length := by have := HNL.out; omega
      have hrok := rg_ok HOK.out hai
      have hhit := fun c => pk_hit HOK.out (i := a + i) (c := c) hai
      have hmiss := fun c => pk_miss (l := L) (i := a + i) (c := c) hai
      obtain ⟨r, hrr⟩ : ∃ r, r = L.getD (a + i) noRg := ⟨_, rfl⟩
      rw [← hrr] at d1 d2 d3 hrok hhit hmiss
      have HRR := hid hrr
      obtain ⟨rf, rt, rv⟩ := r
      dsimp only at d1 d2 d3 hrok hhit hmiss
      obtain ⟨r1, r2, r3, r4, r5⟩ := hrok
      obtain ⟨fn, rfl⟩ := Int.eq_ofNat_of_zero_le r1
      obtain ⟨tn, rfl⟩ := Int.eq_ofNat_of_zero_le (Int.le_trans r1 r2)
      have HHIT := hid hhit
      have HMISS := hid hmiss
      have HAI := hid hai
      have hfn : fn ≤ tn := by omega
      have htn : tn ≤ 1114111 := by omega
      have hw16 : IntKind.u16.wrap rv = rv := wrap_u16 (by omega) (by omega)
      clear hhit hmiss hrr r1 r2 r3 r4 r5 hai
      obtain ⟨c0, hc0⟩ : ∃ c0, c0 = if fn < kb then kb else fn := ⟨_, rfl⟩
      obtain ⟨c1, hc1⟩ : ∃ c1, c1 = if kf < tn then kf else tn := ⟨_, rfl⟩
      have hm1 : (if (fn : Int) < (kb : Int) then (kb : Int) else (fn : Int)) = (c0 : Int) := by rw [hc0]; split <;> split <;> omega
      have hm2 : (if fn < kb then (kb : Int) else (fn : Int)) = (c0 : Int) := by rw [hc0]; split <;> rfl
      have hm3 : (if (kf : Int) < (tn : Int) then (kf : Int) else (tn : Int)) = (c1 : Int) := by rw [hc1]; split <;> split <;> omega
      have hm4 : (if kf < tn then (kf : Int) else (tn : Int)) = (c1 : Int) := by rw [hc1]; split <;> rfl
      have hcs := hid (show kb ≤ c0 ∧ fn ≤ c0 ∧ (c0 = kb ∨ c0 = fn) ∧ c1 ≤ kf ∧ c1 ≤ tn ∧ (c1 = kf ∨ c1 = tn) ∧ c1 < ke by have := HKE.out; rw [hc0, hc1]; split <;> split <;> omega)
      have hc0m : c0 ≤ 3000000 := by have := HKE.out; rw [hc0]; split <;> omega
      have hc1m : c1 ≤ 3000000 := by have := HKE.out; rw [hc1]; split <;> omega
      have HBR : Hid (Box 43 [.int .i64 fn, .int .i64 tn, .int .i64 rv] wr.heap.size (wr.alloc (.cells #[.int .i64 fn, .int .i64 tn, .int .i64 rv] 43))) := hid (Box.made _ _ _)
      have HBB : Hid (Box 52 (uv ys) B (wr.alloc (.cells #[.int .i64 fn, .int .i64 tn, .int .i64 rv] 43))) := hid (hbx.out.alloc _)
      have HGR : Hid (w.grownBy (wr.alloc (.cells #[.int .i64 fn, .int .i64 tn, .int .i64 rv] 43)) (some B)) := hid (grow_trans hgr.out (grow_new _ _ _))
      have hne : Hid (B ≠ wr.heap.size) := hid (by have := hbx.out.lt; omega)
      have hil : decide (i < n) = true := decide_eq_true hi
      have hil' : decide ((i : Int) < (n : Int)) = true := decide_eq_true (by omega)
      clear hc0 hc1
      go_wp2_with (fail)
      clear d1 d2 d3 hm1 hm2
      generalize wr.alloc (.cells #[.int .i64 fn, .int .i64 tn, .int .i64 rv] 43) = W2 at HBR HBB HGR ⊢
      generalize wr.heap.size = G9 at HBR hne ⊢
      clear hbx hgr
      go_loopw [10] (fun cv wi => ∃ (c : Nat) (zs : List Int), cv = .int .i64 c ∧ c ≤ 3000000 ∧ Hid (c0 ≤ c ∧ (c ≤ c1 + 1 ∨ c = c0)) ∧ Hid (zs.length = 256 ∧ ∀ j, j < 256 → zs.getD j 0 = if c0 ≤ kb + j ∧ kb + j < c then rv else lookS (L.take (a + i)) ((kb : Int) + j)) ∧ Hid (Box 52 (uv zs) B wi) ∧ Hid (Box 43 [.int .i64 fn, .int .i64 tn, .int .i64 rv] G9 wi) ∧ Hid (w.grownBy wi (some B))) (fun cv _ => 3000001 - (intOf cv).toNat)
      case atStart => exact ⟨c0, ys, rfl, hc0m, ⟨Nat.le_refl _, .inr rfl⟩, ⟨hys.out.1, fun j hj => by rw [if_neg (by omega)]; exact hys.out.2 j hj⟩, HBB.out, HBR.out, HGR.out⟩
      case round =>
        clear HBB HBR HGR hys
        obtain ⟨c, zs, rfl, hcm, hcc, hzs, hbx, hbr, hgr⟩ := hrel
        have y0 := hbr.out.cell 0
        have y1 := hbr.out.cell 1
        have y2 := hbr.out.cell 2
        simp only [List.getElem?_cons_zero, List.getElem?_cons_succ] at y0 y1 y2
        by_cases hc : c ≤ c1
        · obtain ⟨ix, hix⟩ : ∃ ix, ix = c - kb := ⟨_, rfl⟩
          have hnum : c = kb + ix ∧ ix < 256 := by have := hcc.out; have := hcs.out; have := HKE.out; omega
          obtain ⟨hcix, hix256⟩ := hnum
          have wix : (c : Int) - (kb : Int) = (ix : Int) := by omega
          have x1 := hbx.out.cell ix
          rw [uv_at (by rw [hzs.out.1]; exact hix256)] at x1
          have x2 := hbx.out.ice ix
          have hnx : (zs.set ix rv).length = 256 ∧ ∀ j, j < 256 → (zs.set ix rv).getD j 0 = if c0 ≤ kb + j ∧ kb + j < c + 1 then rv else lookS (L.take (a + i)) ((kb : Int) + j) := by
            refine ⟨by rw [List.length_set]; exact hzs.out.1, fun j hj => ?_⟩
            rw [set_getD (by rw [hzs.out.1]; exact hix256)]
            have hc9 := hcc.out
            by_cases hji : j = ix
            · rw [if_pos hji, if_pos (by omega)]
            · rw [if_neg hji, hzs.out.2 j hj]
              by_cases hb : c0 ≤ kb + j ∧ kb + j < c
              · rw [if_pos hb, if_pos (by omega)]
              · rw [if_neg hb, if_neg (by omega)]
          have HNX := hid hnx
          have HB9 := hid (hbx.out.set ix (.int .u16 rv))
          have HBR9 := hid (box_far' (j := ix) (v := .int .u16 rv) hbr.out (fun h => hne.out h.symm))
          have HGR9 := hid (grow_set1 hgr.out ix (.int .u16 rv))
          have hcc9 := hid (show c0 ≤ c + 1 ∧ (c + 1 ≤ c1 + 1 ∨ c + 1 = c0) by have := hcc.out; omega)
          have hc1k : c + 1 ≤ 3000000 := by have := hcs.out; have := HKE.out; omega
          generalize zs.getD ix 0 = z0 at x1
          clear hnx hix hcix hzs
          go_wp2_with (fail)
          go_region
          go_wp2_with (fail)
          go_roundw
          case rel => exact ⟨c + 1, zs.set ix rv, by go_num, hc1k, hcc9.out, HNX.out, by rw [← uv_set]; exact HB9.out, HBR9.out, grow_drew HGR9.out⟩
          case measure => simp [intOf]; omega
        · have hfin : zs.length = 256 ∧ ∀ j, j < 256 → zs.getD j 0 = lookS (L.take (a + (i + 1))) ((kb : Int) + j) := by
            refine ⟨hzs.out.1, fun j hj => ?_⟩
            rw [hzs.out.2 j hj, show a + (i + 1) = a + i + 1 by omega]
            have h7 := hcs.out
            have h8 := hcc.out
            have h9 := HKE.out
            by_cases hb : c0 ≤ kb + j ∧ kb + j < c
            · rw [if_pos hb, HHIT.out ((kb : Int) + j) (by omega)]
            · rw [if_neg hb, HMISS.out ((kb : Int) + j) (by omega)]
          have HFIN := hid hfin
          clear hfin hzs
          by_cases ht : kf < tn
          · have hend : zs = blk (tabG L) k := by
              refine blk_eq HFIN.out.1 fun j hj => ?_
              rw [HFIN.out.2 j hj, pk_end HOK.out (b := (ke : Int)) (by
                by_cases hx : a + (i + 1) = L.length
                · exact .inl hx
                · right
                  have h1 := rg_pair HOK.out (i := a + i) (j := a + (i + 1)) (by omega) (by have := HAI.out; omega)
                  rw [← HRR.out] at h1
                  dsimp only at h1
                  have := HKE.out
                  omega) (by have := HKE.out; omega)]
              show _ = lookS L ((256 * k + j : Nat) : Int)
              rw [show ((256 * k + j : Nat) : Int) = (kb : Int) + j by have := HKE.out; omega]
            have HEND := hid hend
            obtain ⟨v9, e1, e2, s9⟩ := cutG_from (P := Try.prog) 22 43 Try.underlying22 Try.infoRg (some ⟨b1, o1, none⟩) n cap1 i (by omega) q1
            have HS9 := hid (s9 w0 (L.drop a) HN.out HSG.out)
            clear hend s9
            go_wp2_with (fail)
            go_ret
            refine ⟨_, rfl, ⟨a + i, ?_, by have := HAI.out; omega, fun j hj => ?_⟩, by rw [← HEND.out]; exact hbx.out, hgr.out⟩
            · have := HS9.out
              rwa [List.drop_drop] at this
            · have := hpass.out j hj
              have := HKE.out
              omega
          · have hpn : ∀ j, j < a + (i + 1) → (L.getD j noRg).t < (ke : Int) := fun j hj => by
              rcases Nat.lt_or_ge j (a + i) with h | h
              · exact hpass.out j h
              · obtain rfl : j = a + i := by omega
                rw [← HRR.out]
                have := HKE.out
                show (tn : Int) < ke
                omega
            have HPN := hid hpn
            clear hpn
            go_wp2_with (fail)
            go_roundw
            case rel => exact ⟨i + 1, zs, by go_num, by omega, HFIN.out, HPN.out, hbx.out, hgr.out⟩
            case measure => simp [intOf]; omega
    · obtain rfl : i = n := by omega
      have hend : ys = blk (tabG L) k := by
        refine blk_eq hys.out.1 fun j hj => ?_
        rw [hys.out.2 j hj, pk_end HOK.out (b := (ke : Int)) (.inl (by have := HNL.out; omega)) (by have := HKE.out; omega)]
        show _ = lookS L ((256 * k + j : Nat) : Int)
        rw [show ((256 * k + j : Nat) : Int) = (kb : Int) + j by have := HKE.out; omega]
      have HEND := hid hend
      clear hend
      go_wp2_with (fail)
      go_ret
      refine ⟨_, rfl, ⟨L.length, ?_, Nat.le_refl _, fun j hj => ?_⟩, by rw [← HEND.out]; exact hbx.out, hgr.out⟩
      · rw [List.drop_length]
        exact ⟨none, 0, rfl, Nat.le_refl _, by unfold maxLen; omega, .inl rfl⟩
      · have := hpass.out j (by have := HNL.out; omega)
        have := HKE.out
        omega
end Go.Proofs.Ytlngnmcflooccaa
