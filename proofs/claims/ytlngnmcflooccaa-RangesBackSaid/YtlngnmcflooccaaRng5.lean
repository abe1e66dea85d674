/- Contract of package ranges' Unpack: the fewest ranges that say the same as a two-stage table, or an error. -/
import Derived.Test.YtlngnmcflooccaaMadeG
import Derived.Test.YtlngnmcflooccaaRng3
import Derived.Test.YtlngnmcflooccaaRng4
namespace Go.Proofs.Ytlngnmcflooccaa
open Go.RowKit

/-- what is told of an unpacked table -/
def RUnp (ix bl : List Int) (B : Nat) (w' : World) (v' : Value) (en : Int) : Prop :=
  match unpackS ix bl with
  | some l => en = 0 ∧ OwnG 43 B w' v' l
  | none => en = 1 ∧ v' = .slice none 0 0
theorem runp_none {ix bl : List Int} {B : Nat} {w' : World} (h : unpackS ix bl = none) : RUnp ix bl B w' (.slice none 0 0) 1 := by
  unfold RUnp
  rw [h]
  exact ⟨rfl, rfl⟩
theorem runp_some {ix bl : List Int} {B : Nat} {w' : World} {v' : Value} {l : List Rg} (h : unpackS ix bl = some l) (ho : OwnG 43 B w' v' l) : RUnp ix bl B w' v' 0 := by
  unfold RUnp
  rw [h]
  exact ⟨rfl, ho⟩
/-- the runs behind c numbers, in the variable of block B -/
def UF (g : Nat → Int) (B c : Nat) (w : World) : Prop := ∃ lv, Box 59 [lv] B w ∧ OwnG 62 (B + 1) w lv (rle g c)

set_option maxHeartbeats 8000000 in
set_option maxRecDepth 100000 in
theorem rngUnpack (u1 u2 : Value) (ix bl : List Int) (w : World) (h1 : Sl .i64 w u1 ix) (h2 : Sl .i64 w u2 bl) (hb : ix.length ≤ 10000 ∧ bl.length ≤ 10000000) :
    Calls Try.prog 8 #[.agg #[u1, u2]] w fun e w' => ∃ v' en, e = .returned (.tuple #[v', .int .i64 en]) ∧ RUnp ix bl w.heap.size w' v' en ∧ Below w.heap.size w w' := by
  have HS1 := hid h1
  have HS2 := hid h2
  obtain ⟨a1, cap1, rfl, k1, -, h1⟩ := h1
  obtain ⟨a2, cap2, rfl, k2, -, h2⟩ := h2
  obtain ⟨n1, hn1⟩ : ∃ n, n = ix.length := ⟨_, rfl⟩
  obtain ⟨n2, hn2⟩ : ∃ n, n = bl.length := ⟨_, rfl⟩
  have H1 := hid h1
  have H2 := hid h2
  rw [← hn1] at H1 k1 hb HS1 ⊢
  rw [← hn2] at H2 k2 hb HS2 ⊢
  obtain ⟨hb1, hb2⟩ := hb
  have HN := hid (show n1 = ix.length ∧ n2 = bl.length from ⟨hn1, hn2⟩)
  clear h1 h2 hn1 hn2
  have HB0 : Hid (Below w.heap.size w (w.alloc (.cells #[.slice a1 n1 cap1, .slice a2 n2 cap2] 25))) := hid (by (repeat (first | exact Below.refl _ _ | exact below_drewN _ | refine Below.drew ?_ | refine Below.alloc ?_ (by first | omega | (simp; done) | (simp; omega)) _ | refine Below.setCell ?_ (by first | (simp; done) | (simp; omega)) _ | refine below_drewN' ?_ _)))
  have HBX : Hid (Box 25 [.slice a1 n1 cap1, .slice a2 n2 cap2] w.heap.size (w.alloc (.cells #[.slice a1 n1 cap1, .slice a2 n2 cap2] 25))) := hid (Box.made w 25 _)
  have HQ := hid (rngComplete (.slice a1 n1 cap1) (.slice a2 n2 cap2) ix bl (w.alloc (.cells #[.slice a1 n1 cap1, .slice a2 n2 cap2] 25)) (HS1.out.below HB0.out) (HS2.out.below HB0.out))
  obtain ⟨cb, hcb⟩ : ∃ cb, cb = compB ix bl := ⟨_, rfl⟩
  rw [← hcb] at HQ
  by_cases hok : unpOk ix bl
  · have hct : cb = true := by rw [hcb]; exact compB_t hok
    clear hcb
    subst hct
    obtain ⟨z1, z2, z3, z4⟩ := hok
    have hl1 : n1 = 4352 := by rw [HN.out.1]; exact z1
    subst hl1
    have HV := hid z3
    have HI := hid z4
    obtain ⟨nb, hnb⟩ : ∃ nb, nb = n2 / 256 := ⟨_, rfl⟩
    have HNB := hid (show n2 = 256 * nb ∧ nb = n2 / 256 ∧ bl.length / 256 = nb by have := HN.out.2; omega)
    have HOK : Hid (unpOk ix bl) := hid ⟨z1, z2, z3, z4⟩
    clear z1 z2 z3 z4 hnb
    obtain ⟨g, hg⟩ : ∃ g, g = getN ix bl := ⟨_, rfl⟩
    have HG := hid hg
    clear hg
    have hx0 : Hid (∀ wz, Below (w.alloc (.cells #[.slice a1 4352 cap1, .slice a2 n2 cap2] 25)).heap.size (w.alloc (.cells #[.slice a1 4352 cap1, .slice a2 n2 cap2] 25)) wz → wz.cell? ⟨w.heap.size, 0, none⟩ = some (.slice a1 4352 cap1) ∧ wz.cell? ⟨w.heap.size, 1, none⟩ = some (.slice a2 n2 cap2)) := hid (fun wz hb => by
      have hh := HBX.out.below hb HBX.out.lt
      exact ⟨hh.cell 0, hh.cell 1⟩)
    go_enter Try.func8, Try.ntmps8
    go_wp2_with (go_at_call 24; refine HQ.out.mono ?_; rintro e w3 ⟨rfl, hb3⟩; have HB3 := hid hb3; have y0 := (hx0.out (w3.alloc (.cells #[.slice none 0 0] 59)) (hb3.alloc hb3.size _)).1; clear hb3)
    have HST : Hid (∀ wz, Below w3.heap.size (w3.alloc (.cells #[.slice none 0 0] 59)) wz → wz.cell? ⟨w.heap.size, 0, none⟩ = some (.slice a1 4352 cap1) ∧ wz.cell? ⟨w.heap.size, 1, none⟩ = some (.slice a2 n2 cap2) ∧ Below w.heap.size w wz) := hid (fun wz hb => by
      have hh := (HB3.out.alloc HB3.out.size (.cells #[.slice none 0 0] 59)).trans (hb.mono HB3.out.size)
      exact ⟨(hx0.out wz hh).1, (hx0.out wz hh).2, HB0.out.trans (hh.mono (by simp))⟩)
    have HU0 : Hid (UF g w3.heap.size (256 * 0) (w3.alloc (.cells #[.slice none 0 0] 59))) := hid ⟨_, Box.made w3 _ _, OwnG.nil _ _ _⟩
    have HW4 : Hid (w3.heap.size + 1 ≤ (w3.alloc (.cells #[.slice none 0 0] 59)).heap.size ∧ w.heap.size < w3.heap.size) := hid ⟨by simp, by have := HB3.out.size; simp at this; omega⟩
    clear hx0 HB3 HQ HBX HB0
    generalize w3.alloc (.cells #[.slice none 0 0] 59) = W4 at HST HU0 HW4 y0 ⊢
    generalize w3.heap.size = B1 at HST HU0 HW4 ⊢
    clear y0
    go_loopw [18] (fun iv wr => ∃ k : Nat, k ≤ 4352 ∧ iv = .int .i64 k ∧ Hid (UF g B1 (256 * k) wr) ∧ Hid (Below B1 W4 wr) ∧ Hid ((rle g (256 * k)).length ≤ 2000)) (fun iv _ => 4352 - (intOf iv).toNat)
    case atStart => exact ⟨0, by omega, rfl, HU0.out, Below.refl _ _, Nat.zero_le _⟩
    case round =>
      obtain ⟨k, hk, rfl, huf, hbel, hle⟩ := hrel
      obtain ⟨x0, x1, hbw⟩ := HST.out wr hbel.out
      have HBW := hid hbw
      clear hbw
      by_cases hlt : k < 4352
      · rcases H1.out with hcap | ⟨b1, o1, rfl, hbb1, c1⟩
        · exfalso; omega
        have d1 := (HBW.out.cell (p := ⟨b1, o1 + k, none⟩) (hbb1 (by omega))).trans (c1 k hlt)
        have hq := HI.out k (by have := HN.out.1; omega)
        rw [HNB.out.2.2] at hq
        obtain ⟨z, hz⟩ : ∃ z, z = ix.getD k 0 := ⟨_, rfl⟩
        rw [← hz] at d1 hq
        have HZ := hid hz
        clear hz c1
        obtain ⟨q, rfl⟩ := Int.eq_ofNat_of_zero_le hq.1
        have hqn : q < nb := by omega
        obtain ⟨q0, hq0⟩ : ∃ q0, q0 = 256 * q := ⟨_, rfl⟩
        have wq : (q : Int) * 256 = (q0 : Int) := by omega
        have hq0n : q0 + 256 ≤ n2 := by have := HNB.out.1; omega
        obtain ⟨v8, e1, e2, s8⟩ := cut_all (P := Try.prog) w 23 3 Try.underlying23 Try.infoI64 .i64 (.slice a2 n2 cap2) bl HS2.out (some (.int .i64 (q0 : Int))) none q0 bl.length (.inr ⟨_, rfl⟩) (.inl ⟨rfl, rfl⟩) (by have := HN.out.2; omega) (Nat.le_refl _)
        have hs8 := s8 w HS2.out
        obtain ⟨a8, c8, rfl⟩ := hs8.form
        have hl8 : ((bl.drop q0).take (bl.length - q0)).length = bl.length - q0 := by simp
        rw [hl8] at e1 e2 s8 hs8
        obtain ⟨l8, hll8⟩ : ∃ l8, l8 = bl.length - q0 := ⟨_, rfl⟩
        obtain ⟨v9, e3, e4, s9⟩ := cut_all (P := Try.prog) w 23 3 Try.underlying23 Try.infoI64 .i64 (.slice a8 (bl.length - q0) c8) ((bl.drop q0).take (bl.length - q0)) hs8 none (some (.int .i64 256)) 0 256 (.inl ⟨rfl, rfl⟩) (.inr ⟨_, rfl⟩) (by omega) (by rw [hl8]; have := HN.out.2; omega)
        have hs9 := s9 w hs8
        have hl9 : ((((bl.drop q0).take (bl.length - q0)).drop 0).take (256 - 0)).length = 256 := by simp; have := HN.out.2; omega
        have hat9 : ∀ i, i < 256 → ((((bl.drop q0).take (bl.length - q0)).drop 0).take (256 - 0)).getD i 0 = bl.getD (q0 + i) 0 := fun i hi => by
          simp only [List.getD_eq_getElem?_getD, List.drop_zero, Nat.sub_zero, List.getElem?_take, if_pos hi, List.getElem?_drop]
          rw [if_pos (by have := HN.out.2; omega)]
        obtain ⟨a9, c9, rfl⟩ := hs9.form
        rw [hl9] at e3 e4 s9
        have HR9 : Hid (∀ wz, Below w.heap.size w wz → ∀ i, i < 256 → ∃ b o, a9 = some ⟨b, o, none⟩ ∧ wz.cell? ⟨b, o + i, none⟩ = some (.int .i64 (bl.getD (q0 + i) 0))) := hid (fun wz hb i hi => by
          have hs := s9 wz (s8 wz (HS2.out.below hb))
          obtain ⟨a, cap, he, hl, hm, hs⟩ := hs
          injection he with he1 he2 he3
          subst he1 he3
          rw [hl9] at hl hs
          rcases hs with hs | ⟨b, o, hb1, hb2, hb3⟩
          · omega
          · exact ⟨b, o, hb1, by rw [hb3 i hi, hat9 i hi]⟩)
        rw [← hll8] at e1 e2 e3 e4
        have hc9 : 256 ≤ c9 := by
          obtain ⟨a, cap, he, hl, -, -⟩ := hs9
          injection he with he1 he2 he3
          rw [hl9] at hl
          omega
        have HQ0 := hid (show q0 = 256 * q from hq0)
        clear s8 s9 hs8 hs9 hat9 hl8 hl9 hll8 hq0 hq
        obtain ⟨kq, hkq⟩ : ∃ kq, kq = 256 * k := ⟨_, rfl⟩
        have wk : (k : Int) * 256 = (kq : Int) := by omega
        have HKQ := hid hkq
        have hkt : decide (k < 4352) = true := decide_eq_true hlt
        have hkt' : decide ((k : Int) < 4352) = true := decide_eq_true (by omega)
        clear hkq
        go_wp2_with (fail)
        go_loopw [30] (fun iv wi => ∃ i : Nat, i ≤ 256 ∧ iv = .int .i64 i ∧ Hid (UF g B1 (kq + i) wi) ∧ Hid (Below B1 W4 wi)) (fun iv _ => 256 - (intOf iv).toNat)
        case atStart => exact ⟨0, by omega, rfl, by have := huf.out; rw [← HKQ.out] at this; exact this, hbel.out⟩
        case round =>
          obtain ⟨i, hi, rfl, hui, hbi⟩ := hrel
          obtain ⟨lv, hbx, hown⟩ := hui.out
          by_cases hit : i < 256
          · obtain ⟨b9, o9, rfl, d9⟩ := HR9.out wr (HST.out wr hbi.out).2.2 i hit
            obtain ⟨y, hy⟩ : ∃ y, y = bl.getD (q0 + i) 0 := ⟨_, rfl⟩
            rw [← hy] at d9
            obtain ⟨c, hc⟩ : ∃ c, c = kq + i := ⟨_, rfl⟩
            have wc : (kq : Int) + (i : Int) = (c : Int) := by omega
            have HA := hid (rngAdd B1 (B1 + 1) (rle g (kq + i)) c y lv g wr hbx hown (by omega) (by have := HW4.out.1; have := hbi.out.size; omega) (by rw [hc]) (by
              rw [HG.out, hy]
              unfold getN
              rw [show c / 256 = k by have := HKQ.out; omega, show c % 256 = i by have := HKQ.out; omega, ← HZ.out, Int.toNat_natCast, ← HQ0.out]) (by have := HKQ.out; omega))
            have HC := hid hc
            clear hy hc hbx hown
            go_wp2_with (go_at_call 25; refine HA.out.mono ?_; rintro e w5 ⟨rfl, ht5⟩; have HT5 := hid ht5; clear ht5)
            go_roundw
            case rel =>
              obtain ⟨lv5, p1, p2, p3⟩ := HT5.out
              exact ⟨i + 1, by omega, by go_num, ⟨lv5, p1, by rw [show kq + (i + 1) = c + 1 by have := HC.out; omega]; exact p2⟩, hbi.out.trans p3⟩
            case measure => simp [intOf]; omega
          · obtain rfl : i = 256 := by omega
            obtain ⟨al, cl, hlv⟩ := hown.form
            obtain ⟨m, hm⟩ : ∃ m, m = (rle g (kq + 256)).length := ⟨_, rfl⟩
            rw [← hm] at hlv
            subst hlv
            have x9 := hbx.cell 0
            simp only [List.getElem?_cons_zero] at x9
            have hmm : m ≤ 1114112 := by have := rle_le g (kq + 256); have := HKQ.out; omega
            by_cases hbig : 2000 < m
            · have hr := hid (unpackS_none (ix := ix) (bl := bl) (fun hh => by
                have := rle_mono g (show kq + 256 ≤ 1114112 by have := HKQ.out; omega)
                have := hh.2
                rw [← HG.out] at this
                omega))
              have HB9 := hid (HST.out wr hbi.out).2.2
              clear hm hbx hown
              go_wp2_with (fail)
              go_ret2
              exact ⟨_, _, rfl, runp_none hr.out, HB9.out⟩
            · have hr := hid (show (rle g (256 * (k + 1))).length ≤ 2000 by rw [show 256 * (k + 1) = kq + 256 by have := HKQ.out; omega]; omega)
              clear hm hbx hown
              go_wp2_with (fail)
              go_roundw
              case rel => exact ⟨k + 1, by omega, by go_num, by have := hui.out; rw [show 256 * (k + 1) = kq + 256 by have := HKQ.out; omega]; exact this, hbi.out, hr.out⟩
              case measure => simp [intOf]; omega
      · obtain rfl : k = 4352 := by omega
        obtain ⟨lv, hbx, hown⟩ := huf.out
        have hr : Hid (unpackS ix bl = some (rle g (256 * 4352))) := hid (by
          have := unpackS_some (ix := ix) (bl := bl) HOK.out (by rw [← HG.out]; exact hle.out)
          rw [← HG.out] at this
          exact this)
        have hlen := hle.out
        generalize rle g (256 * 4352) = l at hown hr hlen
        obtain ⟨al, cl, hlv⟩ := hown.form
        obtain ⟨m, hm⟩ : ∃ m, m = l.length := ⟨_, rfl⟩
        rw [← hm] at hlv
        subst hlv
        have x9 := hbx.cell 0
        have y9 := (hbx.alloc (.cells (gv (List.replicate m noRg)).toArray 43)).cell 0
        simp only [List.getElem?_cons_zero] at x9 y9
        have hmm : m ≤ 2000 := by omega
        have hmk := make_ranges wr m (by omega)
        have HSG : Hid (∀ wz, Below wr.heap.size wr wz → Sg wz (.slice al m cl) l) := hid (fun wz hb => hown.sg.below hb)
        have HO0 : Hid (OwnG 43 wr.heap.size (wr.alloc (.cells (gv (List.replicate m noRg)).toArray 43)) (.slice (some ⟨wr.heap.size, 0, none⟩) m m) (List.replicate m noRg)) := hid (made_ownG wr wr.heap.size m (Nat.le_refl _) (by omega))
        have HM := hid hm
        have HB6 : Hid (∀ wz, Below wr.heap.size (wr.alloc (.cells (gv (List.replicate m noRg)).toArray 43)) wz → Below wr.heap.size wr wz ∧ Below w.heap.size w wz) := hid (fun wz hb => by
          have hh := ((Below.refl wr.heap.size wr).alloc (Nat.le_refl _) (.cells (gv (List.replicate m noRg)).toArray 43)).trans hb
          exact ⟨hh, HBW.out.trans (hh.mono HBW.out.size)⟩)
        have hGs : Hid (w.heap.size ≤ wr.heap.size) := hid HBW.out.size
        clear hbx hown hm hlen huf hle HN
        go_wp2_with (fail)
        clear x9 y9 hmk x0 x1
        generalize wr.alloc (.cells (gv (List.replicate m noRg)).toArray 43) = W6 at HO0 HB6 ⊢
        obtain ⟨G, hG⟩ : ∃ G, G = wr.heap.size := ⟨_, rfl⟩
        have HSG2 : Hid (∀ wz, Below G W6 wz → Sg wz (.slice al m cl) l ∧ Below w.heap.size w wz) := hid (fun wz hb => by
          rw [hG] at hb
          exact ⟨HSG.out wz (HB6.out wz hb).1, (HB6.out wz hb).2⟩)
        rw [← hG] at HO0 hGs ⊢
        clear HSG HB6 hG
        have hGW := hid HO0.out.lt.2
        go_loopw [51] (fun iv wr => ∃ j : Nat, j ≤ m ∧ iv = .int .i64 j ∧ Hid (OwnG 43 G wr (.slice (some ⟨G, 0, none⟩) m m) (l.take j ++ List.replicate (l.length - j) noRg)) ∧ Hid (Below G W6 wr)) (fun iv _ => m - (intOf iv).toNat)
        case atStart => exact ⟨0, by omega, rfl, by rw [← HM.out]; exact HO0.out, Below.refl _ _⟩
        case round =>
          obtain ⟨j, hj, rfl, hoj, hbj⟩ := hrel
          by_cases hjt : j < m
          · obtain ⟨a, cap, he, hl, hmx, hs⟩ := (HSG2.out wr hbj.out).1
            injection he with he1 he2 he3
            subst he1 he3
            rcases hs with hs | ⟨b5, o5, rfl, hb5, hs⟩
            · exfalso; have := HM.out; omega
            obtain ⟨d1, d2, d3⟩ := hs j (by have := HM.out; omega)
            have hjl : j < (l.take j ++ List.replicate (l.length - j) noRg).length := by rw [List.length_append, List.length_take, List.length_replicate]; have := HM.out; omega
            have hoa := OwnG.below hoj.out ((Below.refl wr.heap.size wr).alloc (Nat.le_refl _) (.cells #[.int .i64 (l.getD j noRg).f, .int .i64 (l.getD j noRg).t, .int .i64 (l.getD j noRg).v] 62))
            have HPUT := hid (hoa.put hjl (l.getD j noRg).f (l.getD j noRg).t (l.getD j noRg).v)
            obtain ⟨q1, q2, q3⟩ := hoa.cellsAt hjl
            have f1 := hoa.ice (j * 3)
            have f2 := hoa.ice (j * 3 + 1)
            have f3 := hoa.ice (j * 3 + 2)
            have hcs := hid (copied_set (l := l) (m := l.take j ++ List.replicate (l.length - j) noRg) (k := j) (by have := HM.out; omega) rfl)
            have HBA := hid (hbj.out.alloc (show G ≤ wr.heap.size by have := hGW.out; have := hbj.out.size; omega) (.cells #[.int .i64 (l.getD j noRg).f, .int .i64 (l.getD j noRg).t, .int .i64 (l.getD j noRg).v] 62))
            generalize l.getD j noRg = r at d1 d2 d3 hoa HPUT q1 q2 q3 f1 f2 f3 hcs HBA
            generalize (l.take j ++ List.replicate (l.length - j) noRg).getD j noRg = r0 at q1 q2 q3
            obtain ⟨rf, rt, rv⟩ := r
            obtain ⟨sf, st, sv⟩ := r0
            simp only at d1 d2 d3 HPUT q1 q2 q3 f1 f2 f3 hcs HBA
            clear hs hb5 hoa hjl hl hmx
            go_wp2_with (fail)
            go_roundw
            case rel => exact ⟨j + 1, by omega, by go_num, by rw [← hcs.out]; exact HPUT.out, ((HBA.out.setCell (Nat.le_refl _) _).setCell (Nat.le_refl _) _).setCell (Nat.le_refl _) _⟩
            case measure => simp [intOf]; omega
          · obtain rfl : j = m := by omega
            have HE : Hid (OwnG 43 w.heap.size wr (.slice (some ⟨G, 0, none⟩) j j) l) := hid (by
              have := hoj.out
              rw [HM.out, Nat.sub_self, List.take_length, List.replicate_zero, List.append_nil, ← HM.out] at this
              exact this.mono hGs.out)
            have HBE := hid (HSG2.out wr hbj.out).2
            go_wp2_with (fail)
            go_ret2
            exact ⟨_, _, rfl, runp_some hr.out HE.out, HBE.out⟩
  · have hct : cb = false := by rw [hcb]; exact compB_f hok
    have hr := hid (unpackS_none (ix := ix) (bl := bl) (fun hh => hok hh.1))
    clear hcb hok
    subst hct
    go_enter Try.func8, Try.ntmps8
    go_wp2_with (go_at_call 24; refine HQ.out.mono ?_; rintro e w3 ⟨rfl, hb3⟩; have HB3 := hid (HB0.out.trans (hb3.mono (by simp))); clear hb3)
    go_ret2
    exact ⟨_, _, rfl, runp_none hr.out, HB3.out⟩
end Go.Proofs.Ytlngnmcflooccaa
