/- Several texts in one: Dec8e. -/
import Derived.Test.YtdncmdpacidgmaaPk29
/-! Dec8e -/
namespace Go.Proofs.Ytdncmdpacidgmaa
open Go.RowKit Go.Shelf
attribute [local go_sem] Oper.semAt_some

/-- the return through the marks, whatever abides their turn -/
theorem leaves_marksM {F : Fence} {n : Nat} {P : Program} {fn : Func} {tmps : Array Value} {R : Ending → World → Prop} {base : Nat} {T : World → Prop}
    (hT : ∀ w l o o', base ≤ l → w.heap[l]? = some o → o.isCells = false → T w → T (w.putObj l o')) : ∀ (ds : List Deferred) (w : World), Marks base w ds → T w →
    (∀ w', T w' → LeavesInM F n P fn tmps R [] .returning w') → LeavesInM F n P fn tmps R ds .returning w
  | [], w, _, ht, h => h w ht
  | d :: ds, w, ⟨⟨D, hd, hb, hh, hn⟩, ht⟩, hw, h => by
    subst hd
    refine ⟨by simp, .inl ⟨D, _, rfl, run_takeDeferred hh, ?_⟩⟩
    exact leaves_marksM hT ds _ (ht.turned fun D' hD' => World.putObj_heap_other (fun e => hn _ hD' (by rw [e]))) (hT w D _ _ hb hh rfl hw) h

/-- what the iterator has in hand: its slice, its decomposer, the yield that it was called at -/
structure EachSt (k : Bool) (M B : Nat) (t : TypeId) (v yv : Value) (ps : List Int) (b2 Y : Nat) (X : World) : Prop where
  slice : SlZ (FreeOf B t X) X v ps
  free2 : FreeOf B t X b2
  dec : X.heap[b2]? = some (decBox k M)
  freeY : FreeOf B t X Y
  yield : X.heap[Y]? = some (.cells #[yv] 31)
theorem EachSt.move {k : Bool} {M B : Nat} {t : TypeId} {v yv : Value} {ps : List Int} {b2 Y : Nat} {X X' : World} (h : EachSt k M B t v yv ps b2 Y X) (hs : X.heap.size ≤ X'.heap.size) (hz : ∀ b, FreeOf B t X b → X'.heap[b]? = X.heap[b]? ∧ FreeOf B t X' b) : EachSt k M B t v yv ps b2 Y X' :=
  ⟨h.slice.move hs hz, (hz _ h.free2).2, (hz _ h.free2).1.trans h.dec, (hz _ h.freeY).2, (hz _ h.freeY).1.trans h.yield⟩
theorem free_turn {B : Nat} {t : TypeId} {X X' : World} {row : Option Nat} (hi : InvB B t X) (hg : X.grownBy X' row) (hr : NoCells X row) : ∀ b, FreeOf B t X b → X'.heap[b]? = X.heap[b]? ∧ FreeOf B t X' b := fun _ hb => ⟨hb.same hg hr, hb.grown hi hg hr⟩
theorem free_zn {B M : Nat} {t : TypeId} {X X' : World} (hi : InvB B t X) (hg : X.grownBy X' (some M)) (hr : NoCells X (some M)) : ∀ b, Zn (FreeOf B t X) X X' b → FreeOf B t X' b := fun _ hb => by
  rcases hb.2 with h | h
  · exact h.grown hi hg hr
  · exact FreeOf.new hi hg hr h hb.1

theorem iter_gives {k : Bool} {M B n₀ d : Nat} {Z : Nat → Prop} {w : World} {fv : Value} {xs : List Int}
    (HI : ∀ b3 b2 ps, (∀ c ∈ ps, deepP k d c) → GivesM Try.prog 74 #[.pointer (some ⟨b3, 0, none⟩), .pointer (some ⟨b2, 0, none⟩)] (stepS k) M B n₀ 22 (fun W => StE k M (FreeOf B 22 W) W b3 b2 ps) (allS k ps))
    (h : IterOf k M d Z w fv xs) (hi : InvB B 22 w) (hZ : ∀ b, Z b → FreeOf B 22 w b) :
    ∃ gf lb St, fv = .func (.func gf) #[] lb ∧ (∀ args w, (callFunc gf args).run Try.prog w = .ok (.enter gf args) w) ∧ GivesM Try.prog gf lb (stepS k) M B n₀ 22 St xs ∧ ∀ o o', St ((w.alloc o).alloc o') := by
  have hz : ∀ o o' b, Z b → ((w.alloc o).alloc o').heap[b]? = w.heap[b]? ∧ FreeOf B 22 ((w.alloc o).alloc o') b := fun o o' b hb => by
    have hg := (((Below.refl w.heap.size w).alloc (Nat.le_refl _) o).alloc (by simp) o')
    have hg' : w.grownBy ((w.alloc o).alloc o') none := ⟨hg.os, hg.tape, hg.output, hg.size, fun k hk _ => hg.block k hk⟩
    exact free_turn hi hg' (NoCells.none _) b (hZ b hb)
  rcases h with ⟨b, h1, h2⟩ | ⟨b3, b2, ps, h1, h2, h3, h4⟩
  · exact ⟨_, _, _, h1, enters_of Try.func65 (by kernel_rfl) rfl, valuesGives (stepS k) M B n₀ b xs, fun o o' => h2.move (by simp; omega) (hz o o')⟩
  · exact ⟨_, _, _, h1, enters_of Try.func74 (by kernel_rfl) rfl, by rw [h3]; exact HI b3 b2 ps h4, fun o o' => h2.move (by simp; omega) (hz o o')⟩

set_option maxRecDepth 100000 in
set_option maxHeartbeats 4000000 in
theorem eachStep (k : Bool) (M B n₀ d : Nat)
    (HI : ∀ d', d' + 1 = d → ∀ b3 b2 ps, (∀ c ∈ ps, deepP k d' c) → GivesM Try.prog 74 #[.pointer (some ⟨b3, 0, none⟩), .pointer (some ⟨b2, 0, none⟩)] (stepS k) M B n₀ 22 (fun W => StE k M (FreeOf B 22 W) W b3 b2 ps) (allS k ps))
    (b3 b2 : Nat) (ps : List Int) (hps : ∀ c ∈ ps, deepP k d c) : GivesM Try.prog 74 #[.pointer (some ⟨b3, 0, none⟩), .pointer (some ⟨b2, 0, none⟩)] (stepS k) M B n₀ 22 (fun W => StE k M (FreeOf B 22 W) W b3 b2 ps) (allS k ps) := by
  intro m l J W hJ hY h0 hSt hM
  obtain ⟨⟨v, hv, hb3, hs⟩, hb2, hdec⟩ := hSt
  have hMlt := hM.map.lt
  have hgY := World.grownBy_alloc W (.cells #[.func (.yield l) #[] #[]] 31) none
  have hmY := hM.grown hgY (NoCells.none _) (by simp)
  have hfY := free_turn hM.box hgY (NoCells.none _)
  have hYb := Boxed.new W 31 (.func (.yield l) #[] #[])
  have hES : EachSt k M B 22 v (.func (.yield l) #[] #[]) ps b2 W.heap.size (W.alloc (.cells #[.func (.yield l) #[] #[]] 31)) :=
    ⟨hs.move hgY.size hfY, (hfY _ hb2).2, (hfY _ hb2).1.trans hdec, FreeOf.new hM.box hgY (NoCells.none _) (Nat.le_refl _) ⟨_, hYb, rfl⟩, hYb⟩
  have hJY := hJ.alloc h0 (.cells #[.func (.yield l) #[] #[]] 31)
  have hc0 := hv.cell
  have hc1 := (hv.alloc (.cells #[.func (.yield l) #[] #[]] 31)).cell
  obtain ⟨a, cap, hvf⟩ := hs.1.form
  subst hvf
  have hlen := hs.1.len
  obtain ⟨n, hn⟩ : ∃ n, n = ps.length := ⟨_, rfl⟩
  rw [← hn] at hlen hc0 hc1 hES
  have HN := hid hn
  have HES := hid hES
  have HMY := hid hmY
  have HJY := hid hJY
  have HJ := hid hJ
  have HYY := hid hY
  have HPS := hid hps
  clear hn hES hmY hJY hJ hY hps hs hb2 hb3 hdec hfY hYb hM h0 hgY hv hc0
  refine callsIn_of_wp_marks Try.func74 rfl trivial ?_ rfl
  simp only [Try.ntmps74, List.size_toArray, List.length_cons, List.length_nil, Nat.reduceAdd, Nat.reduceSub, Array.replicate_succ, Array.replicate_zero, List.push_toArray, List.append_toArray, List.nil_append, List.cons_append]
  gi_wp2
  refine wpIn_loop (fun a' X => ∃ (j : Nat) (u5 u10 u11 u12 u13 u14 u15 u21 : Value) (ds : List Deferred), j ≤ n ∧ a' = { tmps := #[.func (.yield l) #[] #[], .pointer (some ⟨b3, 0, none⟩), .pointer (some ⟨b2, 0, none⟩), .pointer (some ⟨W.heap.size, 0, none⟩), undef, u5, undef, .slice a n cap, .int .i64 n, .int .i64 j, u10, u11, u12, u13, u14, u15, undef, undef, undef, undef, undef, u21], defers := ds } ∧ Hid (J (allS k (ps.take j)) X) ∧ Hid (MemB (stepS k) M B n₀ 22 X) ∧ Hid (EachSt k M B 22 (.slice a n cap) (.func (.yield l) #[] #[]) ps b2 W.heap.size X) ∧ Hid (W.heap.size ≤ X.heap.size) ∧ Hid (Marks W.heap.size X ds))
    (fun a' _ => n - (intOf (a'.tmps.getD 9 undef)).toNat) ?start ?round
  case start => exact ⟨0, undef, undef, undef, undef, undef, undef, undef, undef, [], Nat.zero_le _, rfl, HJY.out, HMY.out, HES.out, by show _ ≤ _; simp, trivial⟩
  case round =>
    rintro a' X ⟨j, u5, u10, u11, u12, u13, u14, u15, u21, ds, hj, rfl, hJj, hMj, hEj, hsz, hmk⟩
    by_cases hlt : j < n
    · have hcj : deepP k d (ps.getD j 0) := HPS.out _ (by
        have e : ps.getD j 0 = ps[j]'(by have := HN.out; omega) := by rw [List.getD_eq_getElem?_getD, List.getElem?_eq_getElem (by have := HN.out; omega)]; rfl
        rw [e]
        exact List.getElem_mem _)
      have HTK2 := hid (show allS k (ps.take (j + 1)) = allS k (ps.take j) ++ oneS k (ps.getD j 0) from by
        have e : ps.getD j 0 = ps[j]'(by have := HN.out; omega) := by rw [List.getD_eq_getElem?_getD, List.getElem?_eq_getElem (by have := HN.out; omega)]; rfl
        rw [e, List.take_succ_eq_append_getElem (by have := HN.out; omega), allS_app]
        congr 1
        unfold allS; simp)
      have HLE := hid (show (allS k (ps.take j)).length + (oneS k (ps.getD j 0)).length ≤ (allS k ps).length from by
        have h2 : allS k ps = allS k (ps.take (j + 1)) ++ allS k (ps.drop (j + 1)) := by rw [← allS_app, List.take_append_drop]
        rw [h2, HTK2.out]
        simp)
      obtain ⟨a2, c2, hv2, hq2, -, h2⟩ := hEj.out.slice.1
      injection hv2 with e1 e2 e3
      subst e1 e3
      rcases h2 with hc | ⟨b1, o1, rfl, hbb, hc⟩
      · have := HN.out
        omega
      have d1 := hc j (by have := HN.out; omega)
      have hbx : Box 103 [.bool k, .map (some M)] b2 X := hEj.out.dec
      have d2 := hbx.cell 0
      have d3 := hbx.ice 0
      have d4 := hbx.cell 1
      have d5 := hbx.ice 1
      simp only [List.getElem?_cons_zero, List.getElem?_cons_succ] at d2 d4
      clear hc hbb hq2 e2 hbx
      generalize ps.getD j 0 = c at d1 hcj HTK2 HLE
      obtain ⟨P, hP⟩ : ∃ P, P = allS k (ps.take j) := ⟨_, rfl⟩
      rw [← hP] at hJj HTK2 HLE
      clear hP
      obtain ⟨d', rfl⟩ : ∃ d', d = d' + 1 := by
        cases d with
        | zero => exact hcj.elim
        | succ d' => exact ⟨d', rfl⟩
      have HF := hid (full8 k M d' c X (FreeOf B 22 X) hcj (fun b h => h.1) hMj.out.map)
      have HI' := hid (HI d' rfl)
      clear HI hcj
      gi_wp2_with (refine ⟨trivial, wideD _, ?_⟩; gi_at_call 75; refine (callsIn_wide.2 HF.out).mono ?_; rintro e X2 ⟨fv, rfl, hg2, hm2, hit2⟩)
      have hnc := hMj.out.map.nocells
      have hi2 := hMj.out.box.grown hg2 hnc
      have hM2 : MemB (stepS k) M B n₀ 22 X2 := ⟨Nat.le_trans hMj.out.size hg2.size, hMj.out.above, hi2, hm2.mono (free_zn hMj.out.box hg2 hnc)⟩
      have hE2 := hEj.out.move hg2.size (free_turn hMj.out.box hg2 hnc)
      have hJ2 := HJ.out _ X X2 (some M) hJj.out hg2 (fun r e => by cases e; exact ⟨.inl rfl, hnc M rfl⟩)
      have hmk2 : Marks W.heap.size X2 ds := hmk.out.turned (fun D hD => hg2.block D (hmk.out.lt D hD) (fun e => by
        have h1 := (hmk.out.at hD).1
        have h2 : D = M := by simpa using e
        omega))
      have hsz2 : W.heap.size ≤ X2.heap.size := Nat.le_trans hsz.out hg2.size
      obtain ⟨gf, lb, St, hfv, heg, hgv, hst⟩ := iter_gives HI'.out hit2 hi2 (free_zn hMj.out.box hg2 hnc)
      subst hfv
      clear hit2 hm2 HF HI' d1 d2 d3 d4 d5 hEj hMj hJj hmk
      have HYP := hid (fun m' pre x (Z1 : World) (h : J (P ++ pre) Z1) (hm : MemB (stepS k) M B n₀ 22 Z1) (hl : pre.length < (oneS k c).length) => HYY.out m' (P ++ pre) x Z1 h hm (by rw [List.length_append]; have := HLE.out; omega))
      refine wpIn_rangeFunc_M rfl heg hgv hst hM2 rfl (fun pre Z1 => J (P ++ pre) Z1 ∧ (InvB B 22 Z1 ∧ EachSt k M B 22 (.slice (some ⟨b1, o1, none⟩) n cap) (.func (.yield l) #[] #[]) ps b2 W.heap.size Z1) ∧ Marks W.heap.size Z1 ds)
        (((HJ.out.mono hsz2).fn (fun pre => P ++ pre)).and ((abidesM_cells (fun _ _ _ _ hs hg hr => ⟨hs.1.grown hg hr, hs.2.move hg.size (free_turn hs.1 hg hr)⟩)).and (abidesM_marks hMlt hmk2.lt)))
        ⟨by rw [List.append_nil]; exact hJ2, ⟨hi2, hE2⟩, hmk2⟩
        (fun x => { tmps := #[.func (.yield l) #[] #[], .pointer (some ⟨b3, 0, none⟩), .pointer (some ⟨b2, 0, none⟩), .pointer (some ⟨W.heap.size, 0, none⟩), undef, .int .i64 c, .int .i64 x, .slice (some ⟨b1, o1, none⟩) n cap, .int .i64 n, .int .i64 j, .bool true, .pointer (some ⟨b1, o1 + j, none⟩), .int .i64 c, .agg #[.bool k, .map (some M)], .int .i64 c, .func (.func gf) #[] lb, .int .i64 x, undef, undef, undef, undef, u21], defers := [] }) ?assign ?body ?done
      case assign =>
        intro l x W K hK
        gi_wp2
        exact hK
      case body =>
        rintro l2 pre x X3 ⟨hJ3, ⟨hi3, hE3⟩, hmk3⟩ hM3 hl3
        have hbY : Boxed X3 W.heap.size 31 (.func (.yield l) #[] #[]) := hE3.yield
        have hcY := hbY.cell
        have HY2 := HYP.out m pre x X3 hJ3 hM3 hl3
        have HE3 := hid hE3
        have HI3 := hid hi3
        have HK3 := hid hmk3
        clear hbY hE3 hi3 hmk3 hJ3 hM3
        obtain ⟨fn, tmps, assign, body, hy, hR⟩ := HY2
        gi_wp2_with ((try refine ⟨wideD _, ?_⟩); refine (round_anyDepth rfl hR).mono ?_; clear hR; rintro e X4 ⟨rfl, hJ4, hk4⟩; have HJ4 := hid hJ4; have HK4 := hid hk4; clear hJ4 hk4)
        exact ⟨HK4.out, by rw [← List.append_assoc]; exact HJ4.out, ⟨HK4.out.1.inv HI3.out, HE3.out.move HK4.out.1.1.size (fun b hb => HK4.out.free HI3.out hb)⟩, HK3.out.others HK4.out.2⟩
      case done =>
        rintro D X3 hD ⟨hJ3, ⟨hi3, hE3⟩, hmk3⟩ hM3 hK
        obtain ⟨j2, hj2⟩ : ∃ j2, j2 = j + 1 := ⟨_, rfl⟩
        have ej : (j : Int) + 1 = (j2 : Int) := by omega
        have wj : wrap64 (j2 : Int) = (j2 : Int) := by unfold wrap64; omega
        have hm2 := hmk3.cons (Nat.le_trans hsz2 hD) hK fun D' h' => Nat.lt_of_lt_of_le (hmk2.lt D' h') hD
        have hle2 : j2 ≤ n := by rw [hj2]; exact hlt
        have hlt2 : n - j2 < n - j := by rw [hj2]; exact Nat.sub_lt_sub_left hlt (Nat.lt_succ_self j)
        rw [← HTK2.out, ← hj2] at hJ3
        have hs3 : W.heap.size ≤ X3.heap.size := Nat.le_of_lt (Nat.lt_of_le_of_lt (Nat.le_trans hsz2 hD) (Array.getElem?_eq_some_iff.1 hK).1)
        clear hj2 hmk3 hgv hst heg HYP HLE HTK2
        gi_wp2
        refine ⟨⟨j2, _, _, _, _, _, _, _, _, _ :: ds, hle2, rfl, hJ3, hM3, hE3, hs3, hm2⟩, ?_⟩
        simpa [intOf] using hlt2
    · obtain rfl : j = n := by omega
      have hJn := hJj.out
      rw [show ps.take j = ps by rw [HN.out, List.take_length]] at hJn
      gi_wp2
      refine leaves_marksM (T := fun w' => J (allS k ps) w' ∧ MemB (stepS k) M B n₀ 22 w') (fun w' l' o o' hl hlo hc ht => ⟨HJ.out.putObj ht.1 o' hl hlo hc, ht.2.grown (grownBy_putObj' w' l' o') (fun r e => by cases e; exact ⟨o, hlo, hc⟩) (by simp; omega)⟩) ds X hmk.out ⟨hJn, hMj.out⟩ fun w' hw' => ?_
      exact ⟨_, results_none rfl _ _ _, ⟨_, rfl⟩, hw'⟩
theorem eachGives (k : Bool) (M B n₀ : Nat) : ∀ (d : Nat) (b3 b2 : Nat) (ps : List Int), (∀ c ∈ ps, deepP k d c) → GivesM Try.prog 74 #[.pointer (some ⟨b3, 0, none⟩), .pointer (some ⟨b2, 0, none⟩)] (stepS k) M B n₀ 22 (fun W => StE k M (FreeOf B 22 W) W b3 b2 ps) (allS k ps) := by
  intro d
  induction d with
  | zero => exact eachStep k M B n₀ 0 (fun d' h => by omega)
  | succ d ih => exact eachStep k M B n₀ (d + 1) (fun d' h => by cases h; exact ih)
end Go.Proofs.Ytdncmdpacidgmaa
