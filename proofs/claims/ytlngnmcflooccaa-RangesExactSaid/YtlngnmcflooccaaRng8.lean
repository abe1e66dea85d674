/- Contract of package ranges' Pack: the two-stage table of a right flat one, or an error. -/
import Derived.Test.YtlngnmcflooccaaRng1
import Derived.Test.YtlngnmcflooccaaRng7
import Derived.Test.YtlngnmcflooccaaPool4
import Derived.Test.YtlngnmcflooccaaStageRes
namespace Go.Proofs.Ytlngnmcflooccaa
open Go.RowKit Go.Maps

def zer (n : Nat) : List Int := List.replicate n 0
theorem zer_len (n : Nat) : (zer n).length = n := List.length_replicate
theorem make_zer (n : Nat) (hn : n ≤ 1000000) (w : World) : (Instr.makeSlice 23 (.int .i64 (n : Int)) (.int .i64 (n : Int))).run Try.prog w = .ok (.slice (some ⟨w.heap.size, 0, none⟩) n n) (w.alloc (.cells (iv (zer n)).toArray 3)) := by
  obtain ⟨i, hi, hz0, hz1, hz2⟩ := info_parts Try.infoI64
  have := run_make (P := Try.prog) w 23 3 i (.int .i64 0) Try.underlying23 hi hz0 .i64 .i64 (n : Int) (n : Int) (by omega) (by omega) (by rw [hz2]; omega) (by omega)
  rw [this, hz1]
  have e : madeCells (Value.int .i64 0).cells ((n : Int).toNat * 1) = (iv (zer n)).toArray := by
    apply Array.ext
    · simp [madeCells, iv, zer]
    · intro j h1 h2
      simp [madeCells, Value.cells, Nat.mod_one, iv, zer]
  rw [e]
  rfl
theorem zer_set {xs : List Int} {k n : Nat} (hx : xs.length = k) (hk : k < n) (z : Int) : (xs ++ zer (n - k)).set k z = (xs ++ [z]) ++ zer (n - (k + 1)) := by
  subst hx
  rw [List.set_append, if_neg (by omega), Nat.sub_self, show n - xs.length = n - (xs.length + 1) + 1 by omega]
  unfold zer
  rw [List.replicate_succ, List.set_cons_zero, List.append_assoc]
  rfl
theorem ownI_box {g base k : Nat} {w : World} {xs : List Int} (hb : Box 3 (iv xs) g w) (hl : xs.length = k) (hg : base ≤ g) (hk : k ≤ 100000) : Own .i64 3 base w (.slice (some ⟨g, 0, none⟩) k k) xs := by
  subst hl
  refine ⟨by simp, .inr ⟨g, xs.length, (iv xs).toArray, rfl, hg, hb, Nat.le_refl _, by unfold maxLen; omega, by simp [iv_len], ?_⟩⟩
  rw [Nat.mul_one, List.take_of_length_le (by simp [iv_len])]
  rfl
theorem results_stage2 {fn : Func} {p q : Tmp} (h : fn.results = #[.cell p 25, .tmp q]) {tmps : Array Value} {B : Nat} (hp : tmps.getD p undef = .pointer (some ⟨B, 0, none⟩)) {w : World} {c0 c1 : Value} (hb : Box 25 [c0, c1] B w) :
    (results fn tmps).run Try.prog w = .ok (.tuple #[.agg #[c0, c1], tmps.getD q undef]) w := by
  have e : (results fn tmps).run Try.prog w = ((asAddr (tmps.getD p undef)).run Try.prog w).andThen fun a w₁ => ((loadVar 25 a).run Try.prog w₁).andThen fun v w₂ => .ok (.tuple #[v, tmps.getD q undef]) w₂ := by
    simp only [results, h]
    simp [Sem.run_bind, Result.andThen]
  rw [e, hp, asAddr_ptr']
  simp only [Result.andThen]
  rw [loadStage hb]
theorem look_bound {L : List Rg} (h : okL (-1) L) (c : Int) : 0 ≤ lookS L c ∧ lookS L c ≤ 65535 := by
  by_cases hz : lookS L c = 0
  · rw [hz]; omega
  · obtain ⟨r, hr, _, _, he⟩ := lookS_some hz
    have := okL_mem h hr
    rw [he]
    omega
theorem blk_b16 {L : List Rg} (h : okL (-1) L) (k : Nat) : B16 (blk (tabG L) k) := ⟨blk_len _ _, fun x hx => by
  unfold blk at hx
  obtain ⟨i, _, rfl⟩ := List.mem_map.1 hx
  exact look_bound h _⟩
theorem pack_count (g : Nat → Int) (k : Nat) : (packN g k).2.length ≤ k := by
  have hpo := packN_ok g k
  have hsub := sub_len hpo.nodup (b := (List.range k).map (blk g)) (fun b hb => by
    obtain ⟨j, hj, rfl⟩ := hpo.from_ b hb
    exact List.mem_map.2 ⟨j, List.mem_range.2 hj, rfl⟩)
  rwa [List.length_map, List.length_range] at hsub
theorem PoolOk.set {P M base : Nat} {w : World} {bs : List (List Int)} (h : PoolOk P M base w bs) {cs : List Value} {G : Nat} (hb : Box 3 cs G w) (j : Nat) (u : Value) : PoolOk P M base (w.setCell ⟨G, j, none⟩ u) bs := by
  obtain ⟨iv, D, h1, h2, h3, h4⟩ := h
  refine ⟨iv, D, box_far' h1 (fun e => ?_), row_set h2 hb (by decide) j u, h3.setCell (a := ⟨G, j, none⟩) (fun e => box_nomap hb h3 e.symm) u, h4⟩
  subst e
  have a1 : w.heap[P]? = some (.cells _ 49) := h1
  have a2 : w.heap[P]? = some (.cells _ 3) := hb
  rw [a1] at a2
  simp at a2

/-- what Pack tells -/
def RPk (L : List Rg) (B : Nat) (w' : World) (v1 v2 : Value) (en : Int) : Prop :=
  if flatS L = true then en = 0 ∧ Own .i64 3 B w' v1 (nats (packN (tabG L) 4352).1) ∧ Own .i64 3 B w' v2 (packN (tabG L) 4352).2.flatten
  else en = 1 ∧ v1 = .slice none 0 0 ∧ v2 = .slice none 0 0
theorem RPk.no {L : List Rg} {B : Nat} {w' : World} (h : flatS L = false) : RPk L B w' (.slice none 0 0) (.slice none 0 0) 1 := by
  unfold RPk
  rw [if_neg (by rw [h]; exact Bool.false_ne_true)]
  exact ⟨rfl, rfl, rfl⟩
theorem RPk.yes {L : List Rg} {B : Nat} {w' : World} {v1 v2 : Value} (h : flatS L = true) (h1 : Own .i64 3 B w' v1 (nats (packN (tabG L) 4352).1)) (h2 : Own .i64 3 B w' v2 (packN (tabG L) 4352).2.flatten) : RPk L B w' v1 v2 0 := by
  unfold RPk
  rw [if_pos h]
  exact ⟨rfl, h1, h2⟩

set_option maxHeartbeats 8000000 in
set_option maxRecDepth 100000 in
theorem rngPack (v : Value) (L : List Rg) (w : World) (h : Sg w v L) :
    Calls Try.prog 7 #[v] w fun e w' => ∃ v1 v2 en, e = .returned (.tuple #[.agg #[v1, v2], .int .i64 en]) ∧ RPk L w.heap.size w' v1 v2 en ∧ Below w.heap.size w w' := by
  have HSG := hid h
  have HB0 : Hid (Below w.heap.size w (w.alloc (.cells #[.slice none 0 0, .slice none 0 0] 25))) := hid (by (repeat (first | exact Below.refl _ _ | exact below_drewN _ | refine Below.drew ?_ | refine Below.alloc ?_ (by first | omega | (simp; done) | (simp; omega)) _ | refine Below.setCell ?_ (by first | (simp; done) | (simp; omega)) _ | refine below_drewN' ?_ _)))
  have HST := hid (Box.made w 25 [.slice none 0 0, .slice none 0 0])
  have HQ := hid (rngCheck v L (w.alloc (.cells #[.slice none 0 0, .slice none 0 0] 25)) (h.below HB0.out))
  clear h
  by_cases hf : flatS L = true
  · have hce := chkE_t hf
    rw [hce] at HQ
    have HF := hid hf
    have HOK : Hid (okL (-1) L ∧ L.length ≤ 2000) := hid (by unfold flatS at hf; have := of_decide_eq_true hf; exact ⟨this.2, this.1⟩)
    clear hf hce
    obtain ⟨g, hg⟩ : ∃ g, g = tabG L := ⟨_, rfl⟩
    have HG := hid hg
    clear hg
    have hmm := @run_makeMap Try.prog
    have hmk : ∀ w : World, (Instr.makeSlice 23 (.int .i64 4352) (.int .i64 4352)).run Try.prog w = .ok (.slice (some ⟨w.heap.size, 0, none⟩) 4352 4352) (w.alloc (.cells (iv (zer 4352)).toArray 3)) := make_zer 4352 (by omega)
    go_enter Try.func7, Try.ntmps7
    go_wp2_with (go_at_call 16; refine HQ.out.mono ?_; rintro e w3 ⟨rfl, hb3⟩; have HB3 := hid hb3; have HS3 := hid (HST.out.below hb3 HST.out.lt); clear hb3)
    have hb4 : Below w.heap.size w w3 := HB0.out.trans (HB3.out.mono (by simp))
    have h34 := hb4.size
    have HP5 : Hid (PoolOk (w3.heap.size + 1) w3.heap.size w.heap.size (((w3.alloc (.map #[] 0)).alloc (.cells #[.slice none 0 0, .map (some w3.heap.size)] 49)).alloc (.cells (iv (zer 4352)).toArray 3)) []) := hid (by
      have hbx := Box.made (w3.alloc (.map #[] 0)) 49 [.slice none 0 0, .map (some w3.heap.size)]
      rw [show (w3.alloc (.map #[] 0)).heap.size = w3.heap.size + 1 by simp] at hbx
      exact ⟨.slice none 0 0, .map [], hbx.alloc _, World.ownsRow_nil _ _ _ _, ((World.ownsMap_made w3 Try.prog 52 (plainElem (H := Unit) Try.prog 3)).alloc _).alloc _, IdxD.start⟩)
    have HI5 : Hid (Box 3 (iv (nats (packN g 0).1 ++ zer (4352 - 0))) (w3.heap.size + 1 + 1) (((w3.alloc (.map #[] 0)).alloc (.cells #[.slice none 0 0, .map (some w3.heap.size)] 49)).alloc (.cells (iv (zer 4352)).toArray 3))) := hid (by
      have hbx := Box.made ((w3.alloc (.map #[] 0)).alloc (.cells #[.slice none 0 0, .map (some w3.heap.size)] 49)) 3 (iv (zer 4352))
      rw [show ((w3.alloc (.map #[] 0)).alloc (.cells #[.slice none 0 0, .map (some w3.heap.size)] 49)).heap.size = w3.heap.size + 1 + 1 by simp] at hbx
      exact hbx)
    have HS5 := hid (((HS3.out.alloc (.map #[] 0)).alloc (.cells #[.slice none 0 0, .map (some w3.heap.size)] 49)).alloc (.cells (iv (zer 4352)).toArray 3))
    have HB5 := hid (((hb4.alloc h34 (.map #[] 0)).alloc (by simp; omega) (.cells #[.slice none 0 0, .map (some w3.heap.size)] 49)).alloc (by simp; omega) (.cells (iv (zer 4352)).toArray 3))
    have HSZ := hid h34
    clear hmm hmk HB3 HS3 HQ HST HB0 hb4 h34
    generalize ((w3.alloc (.map #[] 0)).alloc (.cells #[.slice none 0 0, .map (some w3.heap.size)] 49)).alloc (.cells (iv (zer 4352)).toArray 3) = W5 at HP5 HI5 HS5 HB5 ⊢
    obtain ⟨M, hM⟩ : ∃ M, M = w3.heap.size := ⟨_, rfl⟩
    rw [← hM] at HP5 HI5 HSZ ⊢
    obtain ⟨P, hP⟩ : ∃ P, P = M + 1 := ⟨_, rfl⟩
    rw [← hP] at HP5 HI5 ⊢
    obtain ⟨G, hG⟩ : ∃ G, G = P + 1 := ⟨_, rfl⟩
    rw [← hG] at HI5 ⊢
    have HPM := hid (show w.heap.size ≤ M ∧ w.heap.size ≤ P ∧ w.heap.size ≤ G by have := HSZ.out; omega)
    clear hM hP hG HSZ
    go_loopw [7, 22] (fun rv kv wr => ∃ k : Nat, k ≤ 4352 ∧ kv = .int .i64 k ∧ Hid (∃ a, Sg w rv (L.drop a) ∧ a ≤ L.length ∧ ∀ j, j < a → (L.getD j noRg).t < 256 * (k : Int)) ∧ Hid (PoolOk P M w.heap.size wr (packN g k).2) ∧ Hid (Box 3 (iv (nats (packN g k).1 ++ zer (4352 - k))) G wr) ∧ Hid (Box 25 [.slice none 0 0, .slice none 0 0] w.heap.size wr) ∧ Hid (Below w.heap.size w wr)) (fun _ kv _ => 4352 - (intOf kv).toNat)
    case atStart => exact ⟨0, by omega, rfl, ⟨0, HSG.out, by omega, fun j hj => absurd hj (by omega)⟩, HP5.out, HI5.out, HS5.out, HB5.out⟩
    case round =>
      clear HP5 HI5 HS5 HB5
      obtain ⟨k, hk, rfl, hre, hpk, hix, hst, hbl⟩ := hrel
      by_cases hlt : k < 4352
      · obtain ⟨a, hsa, ha, hpre⟩ := hre.out
        obtain ⟨kb, hkb⟩ : ∃ kb, kb = 256 * k := ⟨_, rfl⟩
        have wkb : (k : Int) * 256 = (kb : Int) := by omega
        have hbA := hbl.out.alloc hbl.out.size (.cells (uv (con 0)).toArray 52)
        have hbw : Below wr.heap.size wr (wr.alloc (.cells (uv (con 0)).toArray 52)) := (Below.refl _ _).alloc (Nat.le_refl _) _
        have HFL := hid (rngFill w u7 L a k wr.heap.size (wr.alloc (.cells (uv (con 0)).toArray 52)) hsa ha HOK.out.1 HOK.out.2 hpre hlt (Box.made wr _ _) hbA hbl.out.size)
        rw [← hkb, ← HG.out] at HFL
        have HBW := hid hbw
        have HGO : Hid (∀ w1, (wr.alloc (.cells (uv (con 0)).toArray 52)).grownBy w1 (some wr.heap.size) → Below wr.heap.size wr w1) := hid (fun w1 hg => hbw.grown hg (by simp) (fun k hk => by injection hk with hk; omega))
        have hbs := hid (pack_count g k)
        have HB16 : Hid (B16 (blk g k)) := hid (by rw [HG.out]; exact blk_b16 HOK.out.1 k)
        have HUL : Hid ((uv (blk g k)).length = 256) := hid (by rw [uv_len, blk_len])
        have hkt : decide (k < 4352) = true := decide_eq_true hlt
        have hkt' : decide ((k : Int) < 4352) = true := decide_eq_true (by omega)
        have HNL : Hid ((nats (packN g k).1).length = k) := hid (by rw [nats_len, (packN_ok g k).len])
        have HZS := hid (zer_set (xs := nats (packN g k).1) (k := k) (n := 4352) HNL.out hlt (((packN g k).2.idxOf (blk g k) : Nat) : Int))
        have hxl : (nats (packN g k).1 ++ zer (4352 - k)).length = 4352 := by rw [List.length_append, HNL.out, zer_len]; omega
        have HXA := hid (iv_at (ys := nats (packN g k).1 ++ zer (4352 - k)) (i := k) (by rw [hxl]; exact hlt))
        clear hkb hsa ha hpre hbA hbw hxl
        go_wp2_with (first
          | (refine list_at rfl (exec_allocB rfl) ?_)
          | (go_at_call 21; refine HFL.out.mono ?_; rintro e w1 ⟨v1, rfl, hr1, hx1, hg1⟩; have HR1 := hid hr1; have HX1 := hid hx1; have HW1 := hid (HGO.out w1 hg1); clear hr1 hx1 hg1)
          | (refine list_at rfl (exec_loadB rfl rfl HX1.out HUL.out) ?_)
          | (go_at_call 22; refine (rngPlace P M w.heap.size (packN g k).2 (blk g k) w1 (hpk.out.below HW1.out) HB16.out (by have := hbs.out; omega) HPM.out.2.1 HPM.out.1).mono ?_; rintro e w2 ⟨rfl, hp2, hk2, hb2⟩; have HP2 := hid hp2; have HK2 := hid hk2; have HB2 := hid hb2; have HI2 := hid (hk2 _ _ _ (by decide) (by decide) (hix.out.below HW1.out hix.out.lt)); have HS2 := hid (hk2 _ _ _ (by decide) (by decide) (hst.out.below HW1.out hst.out.lt)); have x2 := HI2.out.cell k; have f2 := HI2.out.ice k; rw [HXA.out] at x2; clear hp2 hk2 hb2))
        go_roundw
        case rel =>
          refine ⟨k + 1, by omega, by go_num, HR1.out, ?_, ?_, ?_, ?_⟩
          · exact PoolOk.set HP2.out HI2.out k _
          · have h9 := HI2.out.set k (.int .i64 (((packN g k).2.idxOf (blk g k) : Nat) : Int))
            rw [iv_set, HZS.out, ← nats_snoc] at h9
            exact h9
          · exact box_far' HS2.out (fun e => by
              have a1 : w2.heap[w.heap.size]? = some (.cells _ 25) := HS2.out
              have a2 : w2.heap[G]? = some (.cells _ 3) := HI2.out
              rw [e, a2] at a1
              simp at a1)
          · exact ((hbl.out.trans (HW1.out.mono hbl.out.size)).trans HB2.out).setCell HPM.out.2.2 _
        case measure => simp [intOf]; omega
      · obtain rfl : k = 4352 := by omega
        obtain ⟨ivv, D, hpb, hrow, -, -⟩ := hpk.out
        have x0 := hpb.cell 0
        simp only [List.getElem?_cons_zero] at x0
        have HJ := hid (rngJoin ivv (packN g 4352).2 w.heap.size wr hrow (fun b hb => by
          obtain ⟨k, _, rfl⟩ := (packN_ok g 4352).from_ b hb
          rw [HG.out]
          exact blk_b16 HOK.out.1 k) (by have := pack_count g 4352; omega))
        clear hpb hrow
        go_wp2_with (go_at_call 23; refine HJ.out.mono ?_; rintro e w6 ⟨v6, rfl, ho6, hb6⟩; have HO6 := hid ho6; have HB6 := hid hb6; have HS6 := hid (hst.out.below hb6 hst.out.lt); have HI6 := hid (hix.out.below hb6 hix.out.lt); obtain ⟨a6, c6, hv6⟩ := ho6.sl.form; generalize (packN g 4352).2.flatten.length = l6 at hv6; subst hv6; have y0 := HS6.out.cell 0; have y1 := HS6.out.cell 1; have f0 := HS6.out.ice 0; have f1 := HS6.out.ice 1; simp only [List.getElem?_cons_zero, List.getElem?_cons_succ] at y0 y1; clear ho6 hb6)
        have hbr := ((HS6.out.set 0 (.slice (some ⟨G, 0, none⟩) 4352 4352)).set 1 (.slice a6 l6 c6))
        have hnl : (nats (packN g 4352).1).length = 4352 := by rw [nats_len, (packN_ok g 4352).len]
        have h1 : Own .i64 3 w.heap.size w6 (.slice (some ⟨G, 0, none⟩) 4352 4352) (nats (packN g 4352).1) := by
          have := HI6.out
          rw [Nat.sub_self] at this
          exact ownI_box (by simpa [zer] using this) hnl HPM.out.2.2 (by omega)
        refine bodyPost_ret (results_stage2 rfl rfl hbr) rfl ⟨_, _, _, rfl, RPk.yes HF.out ?_ ?_, ?_⟩
        · rw [← HG.out]
          exact (h1.set HS6.out (by decide) 0 _).set (HS6.out.set 0 _) (by decide) 1 _
        · rw [← HG.out]
          exact ((HO6.out.mono hbl.out.size).set HS6.out (by decide) 0 _).set (HS6.out.set 0 _) (by decide) 1 _
        · exact ((hbl.out.trans (HB6.out.mono hbl.out.size)).setCell (Nat.le_refl _) _).setCell (Nat.le_refl _) _
  · have hf' : flatS L = false := by simpa using hf
    have hce := chkE_f hf'
    rw [hce] at HQ
    have HF := hid hf'
    clear hf hf' hce
    go_enter Try.func7, Try.ntmps7
    go_wp2_with (go_at_call 16; refine HQ.out.mono ?_; rintro e w3 ⟨rfl, hb3⟩; have HB3 := hid hb3; have HS3 := hid (HST.out.below hb3 HST.out.lt); have y0 := HS3.out.cell 0; have y1 := HS3.out.cell 1; have f0 := HS3.out.ice 0; have f1 := HS3.out.ice 1; simp only [List.getElem?_cons_zero, List.getElem?_cons_succ] at y0 y1; clear hb3)
    refine bodyPost_ret (results_stage2 rfl rfl ((HS3.out.set 0 (.slice none 0 0)).set 1 (.slice none 0 0))) rfl ⟨_, _, _, rfl, RPk.no HF.out, ?_⟩
    exact ((HB0.out.trans (HB3.out.mono (by simp))).setCell (Nat.le_refl _) _).setCell (Nat.le_refl _) _
end Go.Proofs.Ytlngnmcflooccaa
