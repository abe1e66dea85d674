/- Contract of the document's Pack: the two-stage table of a right flat one. -/
import Derived.Test.YtlngnmcflooccaaRngPack
import Derived.Test.YtlngnmcflooccaaApp2
import Derived.Test.YtlngnmcflooccaaKeepInts
import Derived.Test.YtlngnmcflooccaaGrow
import Derived.Test.YtlngnmcflooccaaStageRes
import Derived.Deep.CutBlock
import Derived.Deep.DeepCutAuto
namespace Go.Proofs.Ytlngnmcflooccaa
open Go.RowKit

theorem make_256 (w : World) : (Instr.makeSlice 23 (.int .i64 256) (.int .i64 256)).run Try.prog w = .ok (.slice (some ⟨w.heap.size, 0, none⟩) 256 256) (w.alloc (.cells (iv (con 0)).toArray 3)) := by
  obtain ⟨i, hi, hz0, hz1, hz2⟩ := info_parts Try.infoI64
  have := run_make (P := Try.prog) w 23 3 i (.int .i64 0) Try.underlying23 hi hz0 .i64 .i64 256 256 (by omega) (by omega) (by rw [hz2]; omega) (by omega)
  rw [this, hz1]
  have e : madeCells (Value.int .i64 0).cells ((256 : Int).toNat * 1) = (iv (con 0)).toArray := by
    apply Array.ext
    · have e1 : ((iv (con 0)).toArray).size = 256 := by rw [List.size_toArray, iv_len, con_len]
      rw [e1]; simp [madeCells]
    · intro j h1 h2
      have hj : j < 256 := by simpa only [List.size_toArray, iv_len, con_len] using h2
      have h3 := iv_at (ys := con 0) (i := j) (by rw [con_len]; exact hj)
      rw [con_at hj, List.getElem?_eq_getElem (by rw [iv_len, con_len]; exact hj)] at h3
      injection h3 with h3
      simp only [List.getElem_toArray, h3]
      simp [madeCells, Value.cells, Nat.mod_one]
  rw [e]
  rfl

theorem box_far {t : TypeId} {cs : List Value} {B B' j : Nat} {w : World} {v : Value} (h : Box t cs B w) (hn : B ≠ B') : Box t cs B (w.setCell ⟨B', j, none⟩ v) := by
  have e : (w.setCell ⟨B', j, none⟩ v).heap[B]? = w.heap[B]? := Below.heap_setCell _ _ _ _ (fun h => hn (by rw [h]))
  exact e.trans h
/-- what the loop over the groups keeps: the two rows, told by the struct in block w.heap.size + 1 -/
def PkG (w : World) (v1 v2 : Value) (xs ys : List Int) (wr : World) : Prop :=
  Box 25 [v1, v2] (w.heap.size + 1) wr ∧ Own .i64 3 w.heap.size wr v1 xs ∧ Own .i64 3 w.heap.size wr v2 ys ∧ Apt v1 v2 ∧
    Box 25 [.slice none 0 0, .slice none 0 0] w.heap.size wr ∧ Below w.heap.size w wr
def PkRel (w : World) (g : Nat → Int) (v1 v2 : Value) (k : Nat) (wr : World) : Prop := PkG w v1 v2 (nats (packN g k).1) (packN g k).2.flatten wr
theorem PkG.below {w : World} {v1 v2 : Value} {xs ys : List Int} {wr wz : World} (h : PkG w v1 v2 xs ys wr) (hb : Below wr.heap.size wr wz) : PkG w v1 v2 xs ys wz := by
  obtain ⟨h1, h2, h3, h4, h5, h6⟩ := h
  exact ⟨h1.below hb h1.lt, h2.below hb, h3.below hb, h4, h5.below hb h5.lt, h6.trans (hb.mono h6.size)⟩
theorem PkRel.below {w : World} {g : Nat → Int} {v1 v2 : Value} {k : Nat} {wr wz : World} (h : PkRel w g v1 v2 k wr) (hb : Below wr.heap.size wr wz) : PkRel w g v1 v2 k wz := PkG.below h hb
/-- the first row has grown: the struct as it stands, and behind the store -/
theorem PkG.one {w : World} {v1 v2 v' : Value} {xs ys xs' : List Int} {wr wz : World} (h : PkG w v1 v2 xs ys wr) (ho : Own .i64 3 w.heap.size wz v' xs') (hg : wr.grownBy wz v1.ownBlock) (hb : Below w.heap.size wr wz) (h2 : Own .i64 3 w.heap.size wz v2 ys) (ha : Apt v' v2) :
    Box 25 [v1, v2] (w.heap.size + 1) wz ∧ PkG w v' v2 xs' ys (wz.setCell ⟨w.heap.size + 1, 0, none⟩ v') := by
  obtain ⟨k1, k2, k3, k4, k5, k6⟩ := h
  have b1 := k1.grown k2 hg (by decide)
  have b5 := k5.grown k2 hg (by decide)
  exact ⟨b1, b1.set 0 v', ho.set b1 (by decide) 0 v', h2.set b1 (by decide) 0 v', ha, box_far b5 (by omega), (k6.trans hb).setCell (by simp) _⟩
/-- the second one has -/
theorem PkG.two {w : World} {v1 v2 v' : Value} {xs ys ys' : List Int} {wr wz : World} (h : PkG w v1 v2 xs ys wr) (ho : Own .i64 3 w.heap.size wz v' ys') (hg : wr.grownBy wz v2.ownBlock) (hb : Below w.heap.size wr wz) (h2 : Own .i64 3 w.heap.size wz v1 xs) (ha : Apt v' v1) :
    Box 25 [v1, v2] (w.heap.size + 1) wz ∧ PkG w v1 v' xs ys' (wz.setCell ⟨w.heap.size + 1, 1, none⟩ v') := by
  obtain ⟨k1, k2, k3, k4, k5, k6⟩ := h
  have b1 := k1.grown k3 hg (by decide)
  have b5 := k5.grown k3 hg (by decide)
  exact ⟨b1, b1.set 1 v', h2.set b1 (by decide) 1 v', ho.set b1 (by decide) 1 v', ha.turn, box_far b5 (by omega), (k6.trans hb).setCell (by simp) _⟩

set_option maxHeartbeats 8000000 in
set_option maxRecDepth 100000 in
theorem refPack (v : Value) (l : List Rg) (w : World) (h : Sg w v l) (hok : okL (-1) l) (hlen : l.length ≤ 2000) :
    Calls Try.prog 19 #[v] w fun e w' => ∃ v1 v2, e = .returned (.agg #[v1, v2]) ∧ Own .i64 3 w.heap.size w' v1 (nats (packN (tabG l) 4352).1) ∧ Own .i64 3 w.heap.size w' v2 (packN (tabG l) 4352).2.flatten ∧ Apt v1 v2 ∧ Below w.heap.size w w' := by
  obtain ⟨a1, cap1, rfl, q1, -, h1⟩ := h
  obtain ⟨n, hn⟩ : ∃ n, n = l.length := ⟨_, rfl⟩
  have H1 := hid h1
  rw [← hn] at q1 H1 hlen ⊢
  have HNL := hid hn
  have HOK := hid hok
  obtain ⟨g, hg⟩ : ∃ g, g = tabG l := ⟨_, rfl⟩
  rw [← hg]
  have HG := hid hg
  clear h1 hn hok hg
  have hcl : ∀ wz, Below w.heap.size w wz → ∀ i, i < n → ∃ b o, a1 = some ⟨b, o, none⟩ ∧ wz.cell? ⟨b, o + i * 3, none⟩ = some (.int .i64 (l.getD i noRg).f) ∧ wz.cell? ⟨b, o + i * 3 + 1, none⟩ = some (.int .i64 (l.getD i noRg).t) ∧ wz.cell? ⟨b, o + i * 3 + 2, none⟩ = some (.int .i64 (l.getD i noRg).v) := fun wz hb i hi => by
    rcases H1.out with hc | ⟨b, o, he, hbb, hc⟩
    · omega
    · obtain ⟨d1, d2, d3⟩ := hc i hi
      have hlt := hbb (by omega)
      exact ⟨b, o, he, (hb.cell (p := ⟨b, o + i * 3, none⟩) hlt).trans d1, (hb.cell (p := ⟨b, o + i * 3 + 1, none⟩) hlt).trans d2, (hb.cell (p := ⟨b, o + i * 3 + 2, none⟩) hlt).trans d3⟩
  have HCL := hid hcl
  clear hcl
  have hmk := make_256
  go_enter Try.func19, Try.ntmps19
  go_wp2_with (fail)
  have HP0 : Hid (PkRel w g (.slice none 0 0) (.slice none 0 0) 0 ((w.alloc (.cells #[.slice none 0 0, .slice none 0 0] 25)).alloc (.cells #[.slice none 0 0, .slice none 0 0] 25))) := hid (by
    refine ⟨?_, Own.nil _ _ _ _, Own.nil _ _ _ _, Apt.nil _, ?_, by (repeat (first | exact Below.refl _ _ | exact below_drewN _ | refine Below.drew ?_ | refine Below.alloc ?_ (by first | omega | (simp; done) | (simp; omega)) _ | refine Below.setCell ?_ (by first | (simp; done) | (simp; omega)) _ | refine below_drewN' ?_ _))⟩
    · have := Box.made (w.alloc (.cells #[.slice none 0 0, .slice none 0 0] 25)) 25 [.slice none 0 0, .slice none 0 0]
      rwa [show (w.alloc (.cells #[.slice none 0 0, .slice none 0 0] 25)).heap.size = w.heap.size + 1 by simp] at this
    · exact (Box.made w 25 [.slice none 0 0, .slice none 0 0]).alloc _)
  generalize (w.alloc (.cells #[.slice none 0 0, .slice none 0 0] 25)).alloc (.cells #[.slice none 0 0, .slice none 0 0] 25) = W0 at HP0 ⊢
  go_loopw [4, 5] (fun av kv wr => ∃ (a k : Nat) (v1 v2 : Value), av = .int .i64 a ∧ kv = .int .i64 k ∧ a ≤ n ∧ k ≤ 4352 ∧ Hid (∀ j, j < a → (l.getD j noRg).t < 256 * (k : Int)) ∧ Hid (PkRel w g v1 v2 k wr)) (fun _ kv _ => 4352 - (intOf kv).toNat)
  case atStart => exact ⟨0, 0, _, _, rfl, rfl, by omega, by omega, fun j hj => absurd hj (by omega), HP0.out⟩
  case round =>
    clear HP0
    obtain ⟨a, k, v1, v2, rfl, rfl, han, hk, hpre, hpk⟩ := hrel
    by_cases hlt : k < 4352
    · have HBX : Hid (Box 3 (iv (con 0)) wr.heap.size (wr.alloc (.cells (iv (con 0)).toArray 3))) := Box.made wr 3 (iv (con 0))
      have HB1 : Hid (Below wr.heap.size wr (wr.alloc (.cells (iv (con 0)).toArray 3))) := hid (by (repeat (first | exact Below.refl _ _ | exact below_drewN _ | refine Below.drew ?_ | refine Below.alloc ?_ (by first | omega | (simp; done) | (simp; omega)) _ | refine Below.setCell ?_ (by first | (simp; done) | (simp; omega)) _ | refine below_drewN' ?_ _)))
      have hG0 : wr.heap.size < (wr.alloc (.cells (iv (con 0)).toArray 3)).heap.size := by simp
      have hd12 : decide ((k : Int) < 4352) = true := decide_eq_true (by omega)
      go_upto_block 2 with (fail)
      clear hmk hd12
      obtain ⟨G, hG⟩ : ∃ G, G = wr.heap.size := ⟨_, rfl⟩
      rw [← hG] at HBX hG0 ⊢
      have HGE := hid hG
      clear hG
      generalize wr.alloc (.cells (iv (con 0)).toArray 3) = W1 at HBX HB1 hG0 ⊢
      have HBW := hid (hpk.out.2.2.2.2.2.trans (HB1.out.mono hpk.out.2.2.2.2.2.size))
      obtain ⟨kb, hkb⟩ : ∃ kb, kb = 256 * k := ⟨_, rfl⟩
      have wk : (256 : Int) * (k : Int) = (kb : Int) := by omega
      have hkbn : kb ≤ 1114112 := by omega
      have HKB := hid hkb
      clear hkb
      rw [wk] at hpre
      go_cut [4] from 16 to 31 (fun av wx => ∃ a : Nat, av = .int .i64 a ∧ a ≤ n ∧ W1 = wx ∧ Hid (∀ j, j < a → (l.getD j noRg).t < (kb : Int)))
      case first =>
        go_wp2_with (fail)
        go_loopw [4] (fun av wi => ∃ a : Nat, av = .int .i64 a ∧ a ≤ n ∧ W1 = wi ∧ Hid (∀ j, j < a → (l.getD j noRg).t < (kb : Int))) (fun av _ => n - (intOf av).toNat)
        case atStart => exact ⟨a, rfl, han, rfl, hpre.out⟩
        case round =>
          clear hpre han
          obtain ⟨a, rfl, han, rfl, hpre⟩ := hrel
          by_cases ha : a < n
          · obtain ⟨b1, o1, rfl, d1, d2, d3⟩ := HCL.out W1 HBW.out a ha
            have hnx : (l.getD a noRg).t < (kb : Int) → ∀ j, j < a + 1 → (l.getD j noRg).t < (kb : Int) := fun h j hj => by
              rcases Nat.lt_or_ge j a with h1 | h1
              · exact hpre.out j h1
              · obtain rfl : j = a := by omega
                exact h
            have HNX := hid hnx
            clear hnx d1 d3
            generalize (l.getD a noRg).t = t at d2 HNX
            by_cases ht : t < (kb : Int)
            · have hr := hid (HNX.out ht)
              go_wp2_with (fail)
              go_roundw
              case rel => exact ⟨a + 1, by go_num, by omega, by trivial, hr.out⟩
              case measure => simp [intOf]; omega
            · go_wp2_with (fail)
              go_meet
              case rel => exact ⟨a, rfl, han, rfl, hpre.out⟩
          · go_wp2_with (fail)
            go_meet
            case rel => exact ⟨a, rfl, han, rfl, hpre.out⟩
      case rest =>
        clear hpre han
        obtain ⟨a, rfl, han, rfl, hpre⟩ := hcut
        go_upto_block 4 with (fail)
        have HPRE := hid (show ∀ j, j < 256 → (con 0).getD j 0 = lookS (l.take a) ((kb : Int) + j) from fun j hj => by rw [con_at hj, pk_start hpre.out (by omega)])
        obtain ⟨ke, hke⟩ : ∃ ke, ke = kb + 256 := ⟨_, rfl⟩
        have wke : (256 : Int) * ((k : Int) + 1) = (ke : Int) := by have := HKB.out; omega
        have wk5 : (kb : Int) + 255 = ((kb + 255 : Nat) : Int) := by omega
        obtain ⟨kf, hkf⟩ : ∃ kf, kf = kb + 255 := ⟨_, rfl⟩
        have wkf : (kb : Int) + 255 = (kf : Int) := by omega
        have HKE := hid (show ke = kb + 256 ∧ kf = kb + 255 from ⟨hke, hkf⟩)
        have hken : ke ≤ 1200000 := by omega
        clear wk5 hke hkf
        go_cut [] from 33 to 81 (fun wx => Hid (Box 3 (iv (blk g k)) G wx) ∧ Hid (W1.grownBy wx (some G)))
        case first =>
          go_wp2_with (fail)
          go_loopw [7] (fun iv_ wi => ∃ (i : Nat) (ys : List Int), iv_ = .int .i64 i ∧ i ≤ n ∧ Hid (ys.length = 256 ∧ ∀ j, j < 256 → ys.getD j 0 = lookS (l.take i) ((kb : Int) + j)) ∧ Hid (Box 3 (iv ys) G wi) ∧ Hid (W1.grownBy wi (some G))) (fun iv_ _ => n - (intOf iv_).toNat)
          case atStart => exact ⟨a, con 0, rfl, han, ⟨con_len 0, HPRE.out⟩, HBX.out, ⟨rfl, rfl, rfl, Nat.le_refl _, fun _ _ _ => rfl⟩⟩
          case round =>
            clear HPRE
            obtain ⟨i, ys, rfl, hin, hys, hbx, hgr⟩ := hrel
            have HEND : Hid ((i = l.length ∨ (ke : Int) ≤ (l.getD i noRg).f) → ys = blk g k) := hid fun hh => by
              refine blk_eq hys.out.1 fun j hj => ?_
              rw [hys.out.2 j hj, pk_end HOK.out hh (by have := HKE.out; omega), HG.out]
              show _ = lookS l ((256 * k + j : Nat) : Int)
              rw [show ((256 * k + j : Nat) : Int) = (kb : Int) + j by have := HKB.out; omega]
            by_cases hi : i < n
            · obtain ⟨b1, o1, rfl, d1, d2, d3⟩ := HCL.out _ (HBW.out.grown hgr.out (by have := HBW.out.size; omega) (fun b hb => by injection hb with hb; have := HGE.out; have := hpk.out.2.2.2.2.2.size; omega)) i hi
              have hrok := rg_ok HOK.out (i := i) (by have := HNL.out; omega)
              have hhit := fun c => pk_hit HOK.out (i := i) (c := c) (by have := HNL.out; omega)
              have hmiss := fun c => pk_miss (l := l) (i := i) (c := c) (by have := HNL.out; omega)
              obtain ⟨r, hrr⟩ : ∃ r, r = l.getD i noRg := ⟨_, rfl⟩
              rw [← hrr] at d1 d2 d3 hrok hhit hmiss HEND
              obtain ⟨rf, rt, rv⟩ := r
              dsimp only at d1 d2 d3 hrok hhit hmiss HEND
              obtain ⟨r1, r2, r3, r4, r5⟩ := hrok
              obtain ⟨fn, rfl⟩ := Int.eq_ofNat_of_zero_le r1
              obtain ⟨tn, rfl⟩ := Int.eq_ofNat_of_zero_le (Int.le_trans r1 r2)
              have HHIT := hid hhit
              have HMISS := hid hmiss
              have HRR := hid hrr
              have hfn : fn ≤ tn := by omega
              have htn : tn ≤ 1114111 := by omega
              clear hhit hmiss hrr r1 r2 r3 r4 r5
              by_cases hf : fn < ke
              · obtain ⟨c0, hc0⟩ : ∃ c0, c0 = if fn < kb then kb else fn := ⟨_, rfl⟩
                obtain ⟨c1, hc1⟩ : ∃ c1, c1 = if kf < tn then kf else tn := ⟨_, rfl⟩
                have hm1 : (if (fn : Int) < (kb : Int) then (kb : Int) else (fn : Int)) = (c0 : Int) := by rw [hc0]; split <;> split <;> omega
                have hm2 : (if fn < kb then (kb : Int) else (fn : Int)) = (c0 : Int) := by rw [hc0]; split <;> rfl
                have hm3 : (if (kf : Int) < (tn : Int) then (kf : Int) else (tn : Int)) = (c1 : Int) := by rw [hc1]; split <;> split <;> omega
                have hm4 : (if kf < tn then (kf : Int) else (tn : Int)) = (c1 : Int) := by rw [hc1]; split <;> rfl
                have hcs := hid (show kb ≤ c0 ∧ fn ≤ c0 ∧ (c0 = kb ∨ c0 = fn) ∧ c1 ≤ kf ∧ c1 ≤ tn ∧ (c1 = kf ∨ c1 = tn) ∧ c0 < ke ∧ c1 < ke by have := HKE.out; rw [hc0, hc1]; split <;> split <;> omega)
                clear hc0 hc1
                go_wp2_with (fail)
                clear d1 d2 d3 hm1 hm2
                go_loopw [8] (fun cv wi => ∃ (c : Nat) (zs : List Int), cv = .int .i64 c ∧ c ≤ ke ∧ Hid (c0 ≤ c ∧ (c ≤ c1 + 1 ∨ c = c0)) ∧ Hid (zs.length = 256 ∧ ∀ j, j < 256 → zs.getD j 0 = if c0 ≤ kb + j ∧ kb + j < c then rv else lookS (l.take i) ((kb : Int) + j)) ∧ Hid (Box 3 (iv zs) G wi) ∧ Hid (W1.grownBy wi (some G))) (fun cv _ => ke - (intOf cv).toNat)
                case atStart => exact ⟨c0, ys, rfl, by have := hcs.out; omega, ⟨Nat.le_refl _, .inr rfl⟩, ⟨hys.out.1, fun j hj => by rw [if_neg (by omega)]; exact hys.out.2 j hj⟩, hbx.out, hgr.out⟩
                case round =>
                  clear hbx hgr hys HEND
                  obtain ⟨c, zs, rfl, hcke, hcc, hzs, hbx, hgr⟩ := hrel
                  obtain ⟨b1', o1', he, d1, d2, d3⟩ := HCL.out _ (HBW.out.grown hgr.out (by have := HBW.out.size; omega) (fun b hb => by injection hb with hb; have := HGE.out; have := hpk.out.2.2.2.2.2.size; omega)) i hi
                  injection he with he
                  injection he with e1 e2
                  subst e1 e2
                  rw [← HRR.out] at d1 d2 d3
                  dsimp only at d1 d2 d3
                  by_cases hc : c ≤ c1
                  · obtain ⟨ix, hix⟩ : ∃ ix, ix = c - kb := ⟨_, rfl⟩
                    have hnum : c = kb + ix ∧ ix < 256 := by have := hcc.out; have := hcs.out; have := HKE.out; omega
                    obtain ⟨hcix, hix256⟩ := hnum
                    have wix : (c : Int) - (kb : Int) = (ix : Int) := by omega
                    have x1 := hbx.out.cell ix
                    rw [iv_at (by rw [hzs.out.1]; exact hix256)] at x1
                    have x2 := hbx.out.ice ix
                    have hnx : (zs.set ix rv).length = 256 ∧ ∀ j, j < 256 → (zs.set ix rv).getD j 0 = if c0 ≤ kb + j ∧ kb + j < c + 1 then rv else lookS (l.take i) ((kb : Int) + j) := by
                      refine ⟨by rw [List.length_set]; exact hzs.out.1, fun j hj => ?_⟩
                      rw [set_getD (by rw [hzs.out.1]; exact hix256)]
                      have hc9 := hcc.out
                      by_cases hji : j = ix
                      · rw [if_pos hji, if_pos (by omega)]
                      · rw [if_neg hji, hzs.out.2 j hj]
                        by_cases hb : c0 ≤ kb + j ∧ kb + j < c
                        · rw [if_pos hb, if_pos (by omega)]
                        · rw [if_neg hb, if_neg (by omega)]
                    have HNX := hid hnx
                    have HB9 := hid (hbx.out.set ix (.int .i64 rv))
                    have hcc9 := hid (show c0 ≤ c + 1 ∧ (c + 1 ≤ c1 + 1 ∨ c + 1 = c0) by have := hcc.out; omega)
                    have hc1k : c + 1 ≤ ke := by have := hcs.out; omega
                    generalize zs.getD ix 0 = z0 at x1
                    clear hnx hix hcix hzs
                    go_wp2_with (fail)
                    go_roundw
                    case rel => exact ⟨c + 1, zs.set ix rv, by go_num, hc1k, hcc9.out, HNX.out, by rw [← iv_set]; exact HB9.out, grow_set1 hgr.out ix _⟩
                    case measure => simp [intOf]; omega
                  · have hfin : zs.length = 256 ∧ ∀ j, j < 256 → zs.getD j 0 = lookS (l.take (i + 1)) ((kb : Int) + j) := by
                      refine ⟨hzs.out.1, fun j hj => ?_⟩
                      rw [hzs.out.2 j hj]
                      have h7 := hcs.out
                      have h8 := hcc.out
                      have h9 := HKE.out
                      by_cases hb : c0 ≤ kb + j ∧ kb + j < c
                      · rw [if_pos hb, HHIT.out ((kb : Int) + j) (by omega)]
                      · rw [if_neg hb, HMISS.out ((kb : Int) + j) (by omega)]
                    have HFIN := hid hfin
                    clear hfin hzs
                    go_wp2_with (fail)
                    go_roundw
                    case rel => exact ⟨i + 1, zs, by go_num, by omega, HFIN.out, hbx.out, hgr.out⟩
                    case measure => simp [intOf]; omega
              · have hr := hid (HEND.out (.inr (by omega)))
                go_wp2_with (fail)
                go_meet
                case rel => exact ⟨by rw [← hr.out]; exact hbx.out, hgr.out⟩
            · have hr := hid (HEND.out (.inl (by have := HNL.out; omega)))
              go_wp2_with (fail)
              go_meet
              case rel => exact ⟨by rw [← hr.out]; exact hbx.out, hgr.out⟩
        case rest =>
          obtain ⟨hbx, hgr⟩ := hcut
          have hbw : Below wr.heap.size wr wc := HB1.out.grown hgr.out (by have := HGE.out; omega) (fun b hb => by injection hb with hb; have := HGE.out; omega)
          have HPK := hid (hpk.out.below hbw)
          have hGw : Hid (w.heap.size ≤ G ∧ G < wc.heap.size) := hid ⟨by have := HGE.out; have := hpk.out.2.2.2.2.2.size; omega, hbx.out.lt⟩
          clear hbw hgr hpk HBW HBX HB1 HPRE hG0 HCL
          have hown2 := HPK.out.2.2.1
          obtain ⟨a2, c2, hv2⟩ := hown2.sl.form
          have hpo := packN_ok g k
          have hfl := flat_len hpo.each
          obtain ⟨bs, hbs⟩ : ∃ bs, bs = (packN g k).2 := ⟨_, rfl⟩
          rw [hfl, ← hbs] at hv2
          obtain ⟨nb, hnb⟩ : ∃ nb, nb = bs.length := ⟨_, rfl⟩
          rw [← hnb] at hv2
          obtain ⟨fl, hfl2⟩ : ∃ fl, fl = 256 * nb := ⟨_, rfl⟩
          rw [← hfl2] at hv2
          subst hv2
          have hnbk : nb ≤ 4352 := by
            have hsub := sub_len hpo.nodup (b := (List.range k).map (blk g)) (fun b hb => by
              obtain ⟨j, hj, rfl⟩ := hpo.from_ b hb
              exact List.mem_map.2 ⟨j, List.mem_range.2 hj, rfl⟩)
            rw [List.length_map, List.length_range, ← hbs, ← hnb] at hsub
            omega
          have HBS := hid (show bs = (packN g k).2 ∧ nb = bs.length ∧ fl = 256 * nb ∧ fl = bs.flatten.length from ⟨hbs, hnb, hfl2, by rw [hfl2, hnb, hbs, hfl]⟩)
          have HEACH : Hid (∀ b ∈ bs, b.length = 256) := hid (by rw [hbs]; exact hpo.each)
          have HS2 : Hid (Sl .i64 wc (.slice a2 fl c2) bs.flatten) := hid (by rw [hbs]; exact HPK.out.2.2.1.sl)
          have HSB : Hid (Sl .i64 wc (.slice (some ⟨G, 0, none⟩) 256 256) (blk g k)) := hid (by
            refine ⟨_, 256, by rw [blk_len], by rw [blk_len]; exact Nat.le_refl _, by unfold maxLen; omega, .inr ⟨G, 0, rfl, fun _ => hbx.out.lt, fun j hj => ?_⟩⟩
            rw [Nat.zero_add, hbx.out.cell j, iv_at hj])
          have wfl : (fl : Int) = 256 * (nb : Int) := by omega
          have hfln : fl ≤ 1200000 := by omega
          clear hfl hpo hbs hnb hfl2 hown2 wfl
          have hbxS := HPK.out.1
          have x0 := hbxS.cell 0
          have x1 := hbxS.cell 1
          simp only [List.getElem?_cons_zero, List.getElem?_cons_succ] at x0 x1
          obtain ⟨b, hb⟩ : ∃ b, b = blk g k := ⟨_, rfl⟩
          rw [← hb] at HSB
          have HBB := hid hb
          clear hb hbxS
          go_upto_block 8 with (fail)
          go_cut [9] from 82 to 104 (fun hv wx => ∃ (z : Int) (nq : Nat), hv = .int .i64 z ∧ wx = wc.drewN nq ∧ Hid ((z = -1 ∧ b ∉ bs) ∨ (z = (bs.idxOf b : Nat) ∧ b ∈ bs)))
          case first =>
            go_wp2_with (fail)
            go_loopw [9, 10] (fun hv qv wi => ∃ (z : Int) (q nq : Nat), hv = .int .i64 z ∧ qv = .int .i64 q ∧ wi = wc.drewN nq ∧ q ≤ nb ∧ ((z = -1 ∧ Hid (∀ i, i < q → bs.getD i [] ≠ b)) ∨ (0 ≤ z ∧ z < nb ∧ Hid (bs.getD z.toNat [] = b ∧ ∀ i, i < z.toNat → bs.getD i [] ≠ b)))) (fun hv qv _ => (nb + 1 - (intOf qv).toNat))
            case atStart => exact ⟨-1, 0, 0, rfl, rfl, rfl, by omega, .inl ⟨rfl, fun i hi => absurd hi (by omega)⟩⟩
            case round =>
              obtain ⟨z, q, nq0, rfl, rfl, rfl, hq, hz⟩ := hrel
              rcases hz with ⟨rfl, hnone⟩ | ⟨hz0, hz1, hfound⟩
              · by_cases hqn : q < nb
                · obtain ⟨q0, hq0⟩ : ∃ q0, q0 = 256 * q := ⟨_, rfl⟩
                  have wq : (256 : Int) * (q : Int) = (q0 : Int) := by omega
                  have hq0f : q0 < fl := by have := HBS.out; omega
                  have hq0g : q0 + 256 ≤ fl := by have := HBS.out; omega
                  have HCUT : Hid ((bs.flatten.drop q0).take 256 = bs.getD q []) := hid (by rw [hq0]; exact flat_drop HEACH.out (by have := HBS.out; omega))
                  obtain ⟨q9, hq9⟩ : ∃ q9, q9 = q0 + 256 := ⟨_, rfl⟩
                  have wq9 : (q0 : Int) + 256 = (q9 : Int) := by omega
                  have HQ9 := hid hq9
                  clear hq0 hq9
                  go_wp2_with (first
                    | (with_reducible refine at_span ?_; go_loud (refine wpList_span _ rfl _ _ _ 23 rfl .i64 3 8 Try.underlying23 Try.infoI64 (.slice a2 fl c2) bs.flatten rfl (HS2.out.drewN _) .i64 .i64 (q0 : Int) (q9 : Int) rfl rfl (by omega) (by have := HQ9.out; omega) (by have := HBS.out; have := HQ9.out; omega) ?_); rw [Int.toNat_natCast, Int.toNat_natCast, show q9 - q0 = 256 by have := HQ9.out; omega, HCUT.out]; intro v9 hv9; have HV9 := hid hv9; clear hv9)
                    | (go_at_call 20; refine (keepInts v9 (.slice (some ⟨G, 0, none⟩) 256 256) (bs.getD q []) b _ HV9.out (HSB.out.drewN _)).mono ?_; rintro e w9 ⟨rfl, n9, rfl⟩))
                  · have ht : eqL (bs.getD q []) b = true := by assumption
                    have hh := hid (eqL_iff.1 ht)
                    clear ht
                    go_roundw
                    case rel => exact ⟨q, q + 1, nq0 + n9, rfl, by go_num, rfl, by omega, .inr ⟨by omega, by omega, by rw [Int.toNat_natCast]; exact ⟨hh.out, hnone.out⟩⟩⟩
                    case measure => simp [intOf]; omega
                  · have ht : eqL (bs.getD q []) b = false := by assumption
                    have hh := hid (show bs.getD q [] ≠ b from fun h => by rw [eqL_iff.2 h] at ht; cases ht)
                    clear ht
                    go_roundw
                    case rel => exact ⟨-1, q + 1, nq0 + n9, rfl, by go_num, rfl, by omega, .inl ⟨rfl, fun i hi => by
                      rcases Nat.lt_or_ge i q with h1 | h1
                      · exact hnone.out i h1
                      · obtain rfl : i = q := by omega
                        exact hh.out⟩⟩
                    case measure => simp [intOf]; omega
                · have hq0 : ¬ (256 * (q : Int) < (fl : Int)) := by have := HBS.out; omega
                  have hr := hid (idx_none (bs := bs) (b := b) (fun i hi => hnone.out i (by have := HBS.out; omega)))
                  go_wp2_with (fail)
                  go_meet
                  case rel => exact ⟨-1, nq0, rfl, rfl, .inl ⟨rfl, hr.out⟩⟩
              · have hzd : decide (z < 0) = false := decide_eq_false (by omega)
                have hr := hid (show z = (bs.idxOf b : Nat) ∧ b ∈ bs by
                  have h1 := idx_found (bs := bs) (b := b) (q := z.toNat) (by have := HBS.out; omega) hfound.out.1 hfound.out.2
                  refine ⟨by omega, ?_⟩
                  have h2 := List.idxOf_lt_length_iff (l := bs) (a := b)
                  exact h2.1 (by have := HBS.out; omega))
                go_wp2_with (fail)
                go_meet
                case rel => exact ⟨z, nq0, rfl, rfl, .inr hr.out⟩
          case rest =>
            obtain ⟨z, nq, rfl, rfl, hz⟩ := hcut
            have HPK2 : Hid (PkG w v1 (.slice a2 fl c2) (nats (packN g k).1) (packN g k).2.flatten (wc.drewN nq)) := hid (PkG.below HPK.out (below_drewN nq))
            have hpre2 : Hid (∀ j, j < a → (l.getD j noRg).t < 256 * ((k + 1 : Nat) : Int)) := hid (fun j hj => by have := hpre.out j hj; have := HKB.out; omega)
            have hlen1 : Hid ((nats (packN g k).1).length ≤ 5000) := hid (by rw [nats_len, (packN_ok g k).len]; omega)
            rcases hz.out with ⟨hz1, hz2⟩ | ⟨hz1, hz2⟩
            · subst hz1
              have HN := hid (pack_next (g := g) (k := k) (by rw [← HBS.out.1, ← HBB.out]; exact hz2))
              have HBL : Hid (b.length = 256) := hid (by rw [HBB.out, blk_len])
              have wnb : (fl : Int) / 256 = (nb : Int) := by have := HBS.out; omega
              have HNB := hid (show (packN g k).2.length = nb by rw [← HBS.out.1]; exact HBS.out.2.1.symm)
              have HFL := hid (show (packN g k).2.flatten.length = fl by rw [← HBS.out.1]; exact HBS.out.2.2.2.symm)
              clear hz hz2 HPK
              go_wp2_with (first
                | (at_builtin; refine wpList_appI _ rfl _ _ 23 rfl .i64 w.heap.size 3 8 Try.underlying23 Try.infoI64 v1 (nats (packN g k).1) [(nb : Int)] rfl (HP5.out.2.1.below (by (repeat (first | exact Below.refl _ _ | exact below_drewN _ | refine Below.drew ?_ | refine Below.alloc ?_ (by first | omega | (simp; done) | (simp; omega)) _ | refine Below.setCell ?_ (by first | (simp; done) | (simp; omega)) _ | refine below_drewN' ?_ _)))) _ rfl (one_sl (by first | simp | rfl)) (by simp) (by have := hlen1.out; unfold maxLen; simp only [List.length_cons, List.length_nil]; omega) (by have := hlen1.out; simp only [List.length_cons, List.length_nil]; omega) (by have := HP5.out.2.2.2.2.2.size; simp at this ⊢; omega) ?_; intro g6 c6 w6 ho6 hg6 hb6 hx6; have hx7 := hx6 _ _ (HP5.out.2.2.1.below (by (repeat (first | exact Below.refl _ _ | exact below_drewN _ | refine Below.drew ?_ | refine Below.alloc ?_ (by first | omega | (simp; done) | (simp; omega)) _ | refine Below.setCell ?_ (by first | (simp; done) | (simp; omega)) _ | refine below_drewN' ?_ _)))) HP5.out.2.2.2.1; obtain ⟨hs6, hp6⟩ := PkG.one (PkG.below HP5.out (by (repeat (first | exact Below.refl _ _ | exact below_drewN _ | refine Below.drew ?_ | refine Below.alloc ?_ (by first | omega | (simp; done) | (simp; omega)) _ | refine Below.setCell ?_ (by first | (simp; done) | (simp; omega)) _ | refine below_drewN' ?_ _)))) ho6 hg6 hb6 hx7.1 hx7.2; have y2 := hs6.cell 0; have f2 := hs6.ice 0; simp only [List.getElem?_cons_zero] at y2; have HP6 := hid hp6; clear hx6 hx7 hs6 hp6 ho6 hg6 hb6)
                | (at_builtin; refine wpList_appI _ rfl _ _ 23 rfl .i64 w.heap.size 3 8 Try.underlying23 Try.infoI64 (.slice a2 fl c2) (packN g k).2.flatten b rfl HPK2.out.2.2.1 (.slice (some ⟨G, 0, none⟩) 256 256) rfl (HSB.out.drewN _) (by have := HBL.out; omega) (by have := HBL.out; have := HFL.out; unfold maxLen; omega) (by have := HBL.out; have := HFL.out; omega) (by have := HPK2.out.2.2.2.2.2.size; simp at this ⊢; omega) ?_; intro g5 c5 w5 ho5 hg5 hb5 hx5; rw [HFL.out, HBL.out] at ho5 hx5 ⊢; have hx6 := hx5 v1 _ HPK2.out.2.1 HPK2.out.2.2.2.1.turn; obtain ⟨hs5, hp5⟩ := PkG.two HPK2.out ho5 hg5 hb5 hx6.1 hx6.2; have y0 := hs5.cell 0; have y1 := hs5.cell 1; have f0 := hs5.ice 0; have f1 := hs5.ice 1; simp only [List.getElem?_cons_zero, List.getElem?_cons_succ] at y0 y1; have HP5 := hid hp5; clear hx5 hx6 hs5 hp5 ho5 hg5 hb5))
              go_roundw
              case rel => exact ⟨a, k + 1, _, _, rfl, by go_num, han, by omega, hpre2.out, by
                have := HP6.out
                unfold PkRel
                rw [HN.out.1, HN.out.2, nats_snoc, flatten_snoc, HNB.out, ← HBB.out]
                exact this⟩
              case measure => simp [intOf]; omega
            · have hz0 : 0 ≤ z := by omega
              have hzd : decide (z < 0) = false := decide_eq_false (by omega)
              have HN := hid (pack_same (g := g) (k := k) (by rw [← HBS.out.1, ← HBB.out]; exact hz2))
              have HZ := hid (show z = ((packN g k).2.idxOf (blk g k) : Nat) by rw [← HBS.out.1, ← HBB.out]; exact hz1)
              clear hz hz1 hz2 HPK
              go_wp2_with (first
                | (at_builtin; go_loud (refine wpList_appI _ rfl _ _ 23 rfl .i64 w.heap.size 3 8 Try.underlying23 Try.infoI64 v1 (nats (packN g k).1) [z] rfl (HPK2.out.2.1.below (by (repeat (first | exact Below.refl _ _ | exact below_drewN _ | refine Below.drew ?_ | refine Below.alloc ?_ (by first | omega | (simp; done) | (simp; omega)) _ | refine Below.setCell ?_ (by first | (simp; done) | (simp; omega)) _ | refine below_drewN' ?_ _)))) _ rfl (one_sl (by first | simp | rfl)) (by simp) (by have := hlen1.out; unfold maxLen; simp only [List.length_cons, List.length_nil]; omega) (by have := hlen1.out; simp only [List.length_cons, List.length_nil]; omega) (by have := HPK2.out.2.2.2.2.2.size; simp at this ⊢; omega) ?_); intro g5 c5 w5 ho5 hg5 hb5 hx5; have hx6 := hx5 (.slice a2 fl c2) _ (HPK2.out.2.2.1.below (by (repeat (first | exact Below.refl _ _ | exact below_drewN _ | refine Below.drew ?_ | refine Below.alloc ?_ (by first | omega | (simp; done) | (simp; omega)) _ | refine Below.setCell ?_ (by first | (simp; done) | (simp; omega)) _ | refine below_drewN' ?_ _)))) HPK2.out.2.2.2.1; obtain ⟨hs5, hp5⟩ := PkG.one (PkG.below HPK2.out (by (repeat (first | exact Below.refl _ _ | exact below_drewN _ | refine Below.drew ?_ | refine Below.alloc ?_ (by first | omega | (simp; done) | (simp; omega)) _ | refine Below.setCell ?_ (by first | (simp; done) | (simp; omega)) _ | refine below_drewN' ?_ _)))) ho5 hg5 hb5 hx6.1 hx6.2; have y0 := hs5.cell 0; have f0 := hs5.ice 0; simp only [List.getElem?_cons_zero] at y0; have HP5 := hid hp5; clear hx6 hs5 hp5; clear ho5 hg5 hb5 hx5))
              go_roundw
              case rel => exact ⟨a, k + 1, _, _, rfl, by go_num, han, by omega, hpre2.out, by
                have := HP5.out
                unfold PkRel
                rw [HN.out.1, HN.out.2, nats_snoc, ← HZ.out]
                exact this⟩
              case measure => simp [intOf]; omega
    · obtain rfl : k = 4352 := by omega
      obtain ⟨p1, m1, e1⟩ := hpk.out.2.1.sl.form
      obtain ⟨p2, m2, e2⟩ := hpk.out.2.2.1.sl.form
      generalize (nats (packN g 4352).1).length = L1 at e1
      generalize (packN g 4352).2.flatten.length = L2 at e2
      subst e1 e2
      have hs := hpk.out.1
      have hr := hpk.out.2.2.2.2.1
      have x0 := hs.cell 0
      have x1 := hs.cell 1
      have y0 := hr.cell 0
      have y1 := hr.cell 1
      have f0 := hr.ice 0
      have f1 := hr.ice 1
      simp only [List.getElem?_cons_zero, List.getElem?_cons_succ] at x0 x1 y0 y1
      clear hs hr hmk
      go_wp2_with (fail)
      have hbr := ((hpk.out.2.2.2.2.1.set 0 (.slice p1 L1 m1)).set 1 (.slice p2 L2 m2))
      refine bodyPost_ret (results_stage rfl rfl hbr) rfl ⟨_, _, rfl, ?_, ?_, hpk.out.2.2.2.1, ?_⟩
      · exact (hpk.out.2.1.set hpk.out.2.2.2.2.1 (by decide) 0 _).set (hpk.out.2.2.2.2.1.set 0 _) (by decide) 1 _
      · exact (hpk.out.2.2.1.set hpk.out.2.2.2.2.1 (by decide) 0 _).set (hpk.out.2.2.2.2.1.set 0 _) (by decide) 1 _
      · exact (hpk.out.2.2.2.2.2.setCell (Nat.le_refl _) _).setCell (Nat.le_refl _) _
end Go.Proofs.Ytlngnmcflooccaa
