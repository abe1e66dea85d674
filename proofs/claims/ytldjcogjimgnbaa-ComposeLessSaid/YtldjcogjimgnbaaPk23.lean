/- Several texts in one: Dec8e, Dec8f, LawTwice8, LawExact8, LawStays8, LawParts8, Dec8g, Grid, Grid2, SetsSpec, SetsAt, RefSets1, RefSets2. -/
import Derived.Test.YtldjcogjimgnbaaPk22
import Derived.Test.YtldjcogjimgnbaaPk14
import Derived.Test.YtldjcogjimgnbaaPk10
import Derived.Test.YtldjcogjimgnbaaPk16
import Derived.Test.YtldjcogjimgnbaaPk1
/-! Dec8e -/
namespace Go.Proofs.Ytldjcogjimgnbaa
open Go.RowKit Go.Shelf
attribute [local go_sem] Oper.semAt_some

/-- the return through the marks, whatever abides their turn -/
theorem leaves_marksM {F : Fence} {n : Nat} {P : Program} {fn : Func} {tmps : Array Value} {R : Ending → World → Prop} {base : Nat} {T : World → Prop}
    (hT : ∀ w l o o', base ≤ l → w.heap[l]? = some o → o.isCells = false → T w → T (w.putObj l o')) : ∀ (ds : List Deferred) (w : World), Marks base w ds → T w →
    (∀ w', T w' → LeavesInM F n P fn tmps R [] .returning w') → LeavesInM F n P fn tmps R ds .returning w
  | [], w, _, ht, h => h w ht
  | d :: ds, w, ⟨⟨D, hd, hb, hh, hn⟩, ht⟩, hw, h => by
    subst hd
    refine ⟨by simp, .inl ⟨D, _, rfl, run_takeDeferred hh, ?_⟩⟩
    exact leaves_marksM hT ds _ (ht.turned fun D' hD' => World.putObj_heap_other (fun e => hn _ hD' (by rw [e]))) (hT w D _ _ hb hh rfl hw) h

/-- what the iterator has in hand: its slice, its decomposer, the yield that it was called at -/
structure EachSt (k : Bool) (M B : Nat) (t : TypeId) (v yv : Value) (ps : List Int) (b2 Y : Nat) (X : World) : Prop where
  slice : SlZ (FreeOf B t X) X v ps
  free2 : FreeOf B t X b2
  dec : X.heap[b2]? = some (decBox k M)
  freeY : FreeOf B t X Y
  yield : X.heap[Y]? = some (.cells #[yv] 68)
theorem EachSt.move {k : Bool} {M B : Nat} {t : TypeId} {v yv : Value} {ps : List Int} {b2 Y : Nat} {X X' : World} (h : EachSt k M B t v yv ps b2 Y X) (hs : X.heap.size ≤ X'.heap.size) (hz : ∀ b, FreeOf B t X b → X'.heap[b]? = X.heap[b]? ∧ FreeOf B t X' b) : EachSt k M B t v yv ps b2 Y X' :=
  ⟨h.slice.move hs hz, (hz _ h.free2).2, (hz _ h.free2).1.trans h.dec, (hz _ h.freeY).2, (hz _ h.freeY).1.trans h.yield⟩
theorem free_turn {B : Nat} {t : TypeId} {X X' : World} {row : Option Nat} (hi : InvB B t X) (hg : X.grownBy X' row) (hr : NoCells X row) : ∀ b, FreeOf B t X b → X'.heap[b]? = X.heap[b]? ∧ FreeOf B t X' b := fun _ hb => ⟨hb.same hg hr, hb.grown hi hg hr⟩
theorem free_zn {B M : Nat} {t : TypeId} {X X' : World} (hi : InvB B t X) (hg : X.grownBy X' (some M)) (hr : NoCells X (some M)) : ∀ b, Zn (FreeOf B t X) X X' b → FreeOf B t X' b := fun _ hb => by
  rcases hb.2 with h | h
  · exact h.grown hi hg hr
  · exact FreeOf.new hi hg hr h hb.1

theorem iter_gives {k : Bool} {M B n₀ d : Nat} {Z : Nat → Prop} {w : World} {fv : Value} {xs : List Int}
    (HI : ∀ b3 b2 ps, (∀ c ∈ ps, deepP k d c) → GivesM Try.prog 55 #[.pointer (some ⟨b3, 0, none⟩), .pointer (some ⟨b2, 0, none⟩)] (stepS k) M B n₀ 22 (fun W => StE k M (FreeOf B 22 W) W b3 b2 ps) (allS k ps))
    (h : IterOf k M d Z w fv xs) (hi : InvB B 22 w) (hZ : ∀ b, Z b → FreeOf B 22 w b) :
    ∃ gf lb St, fv = .func (.func gf) #[] lb ∧ (∀ args w, (callFunc gf args).run Try.prog w = .ok (.enter gf args) w) ∧ GivesM Try.prog gf lb (stepS k) M B n₀ 22 St xs ∧ ∀ o o', St ((w.alloc o).alloc o') := by
  have hz : ∀ o o' b, Z b → ((w.alloc o).alloc o').heap[b]? = w.heap[b]? ∧ FreeOf B 22 ((w.alloc o).alloc o') b := fun o o' b hb => by
    have hg := (((Below.refl w.heap.size w).alloc (Nat.le_refl _) o).alloc (by simp) o')
    have hg' : w.grownBy ((w.alloc o).alloc o') none := ⟨hg.os, hg.tape, hg.output, hg.size, fun k hk _ => hg.block k hk⟩
    exact free_turn hi hg' (NoCells.none _) b (hZ b hb)
  rcases h with ⟨b, h1, h2⟩ | ⟨b3, b2, ps, h1, h2, h3, h4⟩
  · exact ⟨_, _, _, h1, enters_of Try.func70 (by kernel_rfl) rfl, valuesGives (stepS k) M B n₀ b xs, fun o o' => h2.move (by simp; omega) (hz o o')⟩
  · exact ⟨_, _, _, h1, enters_of Try.func55 (by kernel_rfl) rfl, by rw [h3]; exact HI b3 b2 ps h4, fun o o' => h2.move (by simp; omega) (hz o o')⟩

set_option maxRecDepth 100000 in
set_option maxHeartbeats 4000000 in
theorem eachStep (k : Bool) (M B n₀ d : Nat)
    (HI : ∀ d', d' + 1 = d → ∀ b3 b2 ps, (∀ c ∈ ps, deepP k d' c) → GivesM Try.prog 55 #[.pointer (some ⟨b3, 0, none⟩), .pointer (some ⟨b2, 0, none⟩)] (stepS k) M B n₀ 22 (fun W => StE k M (FreeOf B 22 W) W b3 b2 ps) (allS k ps))
    (b3 b2 : Nat) (ps : List Int) (hps : ∀ c ∈ ps, deepP k d c) : GivesM Try.prog 55 #[.pointer (some ⟨b3, 0, none⟩), .pointer (some ⟨b2, 0, none⟩)] (stepS k) M B n₀ 22 (fun W => StE k M (FreeOf B 22 W) W b3 b2 ps) (allS k ps) := by
  intro m l J W hJ hY h0 hSt hM
  obtain ⟨⟨v, hv, hb3, hs⟩, hb2, hdec⟩ := hSt
  have hMlt := hM.map.lt
  have hgY := World.grownBy_alloc W (.cells #[.func (.yield l) #[] #[]] 68) none
  have hmY := hM.grown hgY (NoCells.none _) (by simp)
  have hfY := free_turn hM.box hgY (NoCells.none _)
  have hYb := Boxed.new W 68 (.func (.yield l) #[] #[])
  have hES : EachSt k M B 22 v (.func (.yield l) #[] #[]) ps b2 W.heap.size (W.alloc (.cells #[.func (.yield l) #[] #[]] 68)) :=
    ⟨hs.move hgY.size hfY, (hfY _ hb2).2, (hfY _ hb2).1.trans hdec, FreeOf.new hM.box hgY (NoCells.none _) (Nat.le_refl _) ⟨_, hYb, rfl⟩, hYb⟩
  have hJY := hJ.alloc h0 (.cells #[.func (.yield l) #[] #[]] 68)
  have hc0 := hv.cell
  have hc1 := (hv.alloc (.cells #[.func (.yield l) #[] #[]] 68)).cell
  obtain ⟨a, cap, hvf⟩ := hs.1.form
  subst hvf
  have hlen := hs.1.len
  obtain ⟨n, hn⟩ : ∃ n, n = ps.length := ⟨_, rfl⟩
  rw [← hn] at hlen hc0 hc1 hES
  have HN := hid hn
  have HES := hid hES
  have HMY := hid hmY
  have HJY := hid hJY
  have HJ := hid hJ
  have HYY := hid hY
  have HPS := hid hps
  clear hn hES hmY hJY hJ hY hps hs hb2 hb3 hdec hfY hYb hM h0 hgY hv hc0
  refine callsIn_of_wp_marks Try.func55 rfl trivial ?_ rfl
  simp only [Try.ntmps55, List.size_toArray, List.length_cons, List.length_nil, Nat.reduceAdd, Nat.reduceSub, Array.replicate_succ, Array.replicate_zero, List.push_toArray, List.append_toArray, List.nil_append, List.cons_append]
  gi_wp2
  refine wpIn_loop (fun a' X => ∃ (j : Nat) (u5 u10 u11 u12 u13 u14 u15 u21 : Value) (ds : List Deferred), j ≤ n ∧ a' = { tmps := #[.func (.yield l) #[] #[], .pointer (some ⟨b3, 0, none⟩), .pointer (some ⟨b2, 0, none⟩), .pointer (some ⟨W.heap.size, 0, none⟩), undef, u5, undef, .slice a n cap, .int .i64 n, .int .i64 j, u10, u11, u12, u13, u14, u15, undef, undef, undef, undef, undef, u21], defers := ds } ∧ Hid (J (allS k (ps.take j)) X) ∧ Hid (MemB (stepS k) M B n₀ 22 X) ∧ Hid (EachSt k M B 22 (.slice a n cap) (.func (.yield l) #[] #[]) ps b2 W.heap.size X) ∧ Hid (W.heap.size ≤ X.heap.size) ∧ Hid (Marks W.heap.size X ds))
    (fun a' _ => n - (intOf (a'.tmps.getD 9 undef)).toNat) ?start ?round
  case start => exact ⟨0, undef, undef, undef, undef, undef, undef, undef, undef, [], Nat.zero_le _, rfl, HJY.out, HMY.out, HES.out, by show _ ≤ _; simp, trivial⟩
  case round =>
    rintro a' X ⟨j, u5, u10, u11, u12, u13, u14, u15, u21, ds, hj, rfl, hJj, hMj, hEj, hsz, hmk⟩
    by_cases hlt : j < n
    · have hcj : deepP k d (ps.getD j 0) := HPS.out _ (by
        have e : ps.getD j 0 = ps[j]'(by have := HN.out; omega) := by rw [List.getD_eq_getElem?_getD, List.getElem?_eq_getElem (by have := HN.out; omega)]; rfl
        rw [e]
        exact List.getElem_mem _)
      have HTK2 := hid (show allS k (ps.take (j + 1)) = allS k (ps.take j) ++ oneS k (ps.getD j 0) from by
        have e : ps.getD j 0 = ps[j]'(by have := HN.out; omega) := by rw [List.getD_eq_getElem?_getD, List.getElem?_eq_getElem (by have := HN.out; omega)]; rfl
        rw [e, List.take_succ_eq_append_getElem (by have := HN.out; omega), allS_app]
        congr 1
        unfold allS; simp)
      have HLE := hid (show (allS k (ps.take j)).length + (oneS k (ps.getD j 0)).length ≤ (allS k ps).length from by
        have h2 : allS k ps = allS k (ps.take (j + 1)) ++ allS k (ps.drop (j + 1)) := by rw [← allS_app, List.take_append_drop]
        rw [h2, HTK2.out]
        simp)
      obtain ⟨a2, c2, hv2, hq2, -, h2⟩ := hEj.out.slice.1
      injection hv2 with e1 e2 e3
      subst e1 e3
      rcases h2 with hc | ⟨b1, o1, rfl, hbb, hc⟩
      · have := HN.out
        omega
      have d1 := hc j (by have := HN.out; omega)
      have hbx : Box 64 [.bool k, .map (some M)] b2 X := hEj.out.dec
      have d2 := hbx.cell 0
      have d3 := hbx.ice 0
      have d4 := hbx.cell 1
      have d5 := hbx.ice 1
      simp only [List.getElem?_cons_zero, List.getElem?_cons_succ] at d2 d4
      clear hc hbb hq2 e2 hbx
      generalize ps.getD j 0 = c at d1 hcj HTK2 HLE
      obtain ⟨P, hP⟩ : ∃ P, P = allS k (ps.take j) := ⟨_, rfl⟩
      rw [← hP] at hJj HTK2 HLE
      clear hP
      obtain ⟨d', rfl⟩ : ∃ d', d = d' + 1 := by
        cases d with
        | zero => exact hcj.elim
        | succ d' => exact ⟨d', rfl⟩
      have HF := hid (full8 k M d' c X (FreeOf B 22 X) hcj (fun b h => h.1) hMj.out.map)
      have HI' := hid (HI d' rfl)
      clear HI hcj
      gi_wp2_with (refine ⟨trivial, wideD _, ?_⟩; gi_at_call 56; refine (callsIn_wide.2 HF.out).mono ?_; rintro e X2 ⟨fv, rfl, hg2, hm2, hit2⟩)
      have hnc := hMj.out.map.nocells
      have hi2 := hMj.out.box.grown hg2 hnc
      have hM2 : MemB (stepS k) M B n₀ 22 X2 := ⟨Nat.le_trans hMj.out.size hg2.size, hMj.out.above, hi2, hm2.mono (free_zn hMj.out.box hg2 hnc)⟩
      have hE2 := hEj.out.move hg2.size (free_turn hMj.out.box hg2 hnc)
      have hJ2 := HJ.out _ X X2 (some M) hJj.out hg2 (fun r e => by cases e; exact ⟨.inl rfl, hnc M rfl⟩)
      have hmk2 : Marks W.heap.size X2 ds := hmk.out.turned (fun D hD => hg2.block D (hmk.out.lt D hD) (fun e => by
        have h1 := (hmk.out.at hD).1
        have h2 : D = M := by simpa using e
        omega))
      have hsz2 : W.heap.size ≤ X2.heap.size := Nat.le_trans hsz.out hg2.size
      obtain ⟨gf, lb, St, hfv, heg, hgv, hst⟩ := iter_gives HI'.out hit2 hi2 (free_zn hMj.out.box hg2 hnc)
      subst hfv
      clear hit2 hm2 HF HI' d1 d2 d3 d4 d5 hEj hMj hJj hmk
      have HYP := hid (fun m' pre x (Z1 : World) (h : J (P ++ pre) Z1) (hm : MemB (stepS k) M B n₀ 22 Z1) (hl : pre.length < (oneS k c).length) => HYY.out m' (P ++ pre) x Z1 h hm (by rw [List.length_append]; have := HLE.out; omega))
      refine wpIn_rangeFunc_M rfl heg hgv hst hM2 rfl (fun pre Z1 => J (P ++ pre) Z1 ∧ (InvB B 22 Z1 ∧ EachSt k M B 22 (.slice (some ⟨b1, o1, none⟩) n cap) (.func (.yield l) #[] #[]) ps b2 W.heap.size Z1) ∧ Marks W.heap.size Z1 ds)
        (((HJ.out.mono hsz2).fn (fun pre => P ++ pre)).and ((abidesM_cells (fun _ _ _ _ hs hg hr => ⟨hs.1.grown hg hr, hs.2.move hg.size (free_turn hs.1 hg hr)⟩)).and (abidesM_marks hMlt hmk2.lt)))
        ⟨by rw [List.append_nil]; exact hJ2, ⟨hi2, hE2⟩, hmk2⟩
        (fun x => { tmps := #[.func (.yield l) #[] #[], .pointer (some ⟨b3, 0, none⟩), .pointer (some ⟨b2, 0, none⟩), .pointer (some ⟨W.heap.size, 0, none⟩), undef, .int .i64 c, .int .i64 x, .slice (some ⟨b1, o1, none⟩) n cap, .int .i64 n, .int .i64 j, .bool true, .pointer (some ⟨b1, o1 + j, none⟩), .int .i64 c, .agg #[.bool k, .map (some M)], .int .i64 c, .func (.func gf) #[] lb, .int .i64 x, undef, undef, undef, undef, u21], defers := [] }) ?assign ?body ?done
      case assign =>
        intro l x W K hK
        gi_wp2
        exact hK
      case body =>
        rintro l2 pre x X3 ⟨hJ3, ⟨hi3, hE3⟩, hmk3⟩ hM3 hl3
        have hbY : Boxed X3 W.heap.size 68 (.func (.yield l) #[] #[]) := hE3.yield
        have hcY := hbY.cell
        have HY2 := HYP.out m pre x X3 hJ3 hM3 hl3
        have HE3 := hid hE3
        have HI3 := hid hi3
        have HK3 := hid hmk3
        clear hbY hE3 hi3 hmk3 hJ3 hM3
        obtain ⟨fn, tmps, assign, body, hy, hR⟩ := HY2
        gi_wp2_with ((try refine ⟨wideD _, ?_⟩); refine (round_anyDepth rfl hR).mono ?_; clear hR; rintro e X4 ⟨rfl, hJ4, hk4⟩; have HJ4 := hid hJ4; have HK4 := hid hk4; clear hJ4 hk4)
        exact ⟨HK4.out, by rw [← List.append_assoc]; exact HJ4.out, ⟨HK4.out.1.inv HI3.out, HE3.out.move HK4.out.1.1.size (fun b hb => HK4.out.free HI3.out hb)⟩, HK3.out.others HK4.out.2⟩
      case done =>
        rintro D X3 hD ⟨hJ3, ⟨hi3, hE3⟩, hmk3⟩ hM3 hK
        obtain ⟨j2, hj2⟩ : ∃ j2, j2 = j + 1 := ⟨_, rfl⟩
        have ej : (j : Int) + 1 = (j2 : Int) := by omega
        have wj : wrap64 (j2 : Int) = (j2 : Int) := by unfold wrap64; omega
        have hm2 := hmk3.cons (Nat.le_trans hsz2 hD) hK fun D' h' => Nat.lt_of_lt_of_le (hmk2.lt D' h') hD
        have hle2 : j2 ≤ n := by rw [hj2]; exact hlt
        have hlt2 : n - j2 < n - j := by rw [hj2]; exact Nat.sub_lt_sub_left hlt (Nat.lt_succ_self j)
        rw [← HTK2.out, ← hj2] at hJ3
        have hs3 : W.heap.size ≤ X3.heap.size := Nat.le_of_lt (Nat.lt_of_le_of_lt (Nat.le_trans hsz2 hD) (Array.getElem?_eq_some_iff.1 hK).1)
        clear hj2 hmk3 hgv hst heg HYP HLE HTK2
        gi_wp2
        refine ⟨⟨j2, _, _, _, _, _, _, _, _, _ :: ds, hle2, rfl, hJ3, hM3, hE3, hs3, hm2⟩, ?_⟩
        simpa [intOf] using hlt2
    · obtain rfl : j = n := by omega
      have hJn := hJj.out
      rw [show ps.take j = ps by rw [HN.out, List.take_length]] at hJn
      gi_wp2
      refine leaves_marksM (T := fun w' => J (allS k ps) w' ∧ MemB (stepS k) M B n₀ 22 w') (fun w' l' o o' hl hlo hc ht => ⟨HJ.out.putObj ht.1 o' hl hlo hc, ht.2.grown (grownBy_putObj' w' l' o') (fun r e => by cases e; exact ⟨o, hlo, hc⟩) (by simp; omega)⟩) ds X hmk.out ⟨hJn, hMj.out⟩ fun w' hw' => ?_
      exact ⟨_, results_none rfl _ _ _, ⟨_, rfl⟩, hw'⟩
theorem eachGives (k : Bool) (M B n₀ : Nat) : ∀ (d : Nat) (b3 b2 : Nat) (ps : List Int), (∀ c ∈ ps, deepP k d c) → GivesM Try.prog 55 #[.pointer (some ⟨b3, 0, none⟩), .pointer (some ⟨b2, 0, none⟩)] (stepS k) M B n₀ 22 (fun W => StE k M (FreeOf B 22 W) W b3 b2 ps) (allS k ps) := by
  intro d
  induction d with
  | zero => exact eachStep k M B n₀ 0 (fun d' h => by omega)
  | succ d ih => exact eachStep k M B n₀ (d + 1) (fun d' h => by cases h; exact ih)
end Go.Proofs.Ytldjcogjimgnbaa

/-! Dec8f -/
namespace Go.Proofs.Ytldjcogjimgnbaa
open Go.RowKit Go.Shelf
attribute [local go_sem] Oper.semAt_some

set_option maxRecDepth 100000 in
set_option maxHeartbeats 4000000 in
theorem appendSeq8 (k : Bool) (M d n₀ : Nat) (fv : Value) (xs : List Int) (w : World) (Z : Nat → Prop) (hZ : ∀ b, Z b → ∃ o : Obj, w.heap[b]? = some o ∧ o.isCells = true) (hm : MapZ (stepS k) Z M w) (hit : IterOf k M d Z w fv xs) (hn : n₀ ≤ w.heap.size) (hnM : n₀ ≤ M) (hlen : xs.length ≤ 300000000) :
    Calls Try.prog 54 #[.slice none 0 0, fv] w fun e w' => ∃ x, e = .returned x ∧ Own .i64 3 w.heap.size w' x xs ∧ Below n₀ w w' := by
  obtain ⟨i0, hi0, hz0, hz1, hz2⟩ := info_parts Try.infoI64
  have bO := Boxed.new w 22 (.slice none 0 0)
  have hB0 : Below n₀ w (w.alloc (.cells #[.slice none 0 0] 22)) := (Below.refl _ w).alloc hn _
  have hiB : InvB w.heap.size 22 (w.alloc (.cells #[.slice none 0 0] 22)) := ⟨_, bO, fun r e => by cases e⟩
  have hfree : ∀ b, Z b → (w.alloc (.cells #[.slice none 0 0] 22)).heap[b]? = w.heap[b]? ∧ FreeOf w.heap.size 22 (w.alloc (.cells #[.slice none 0 0] 22)) b := fun b hb => by
    obtain ⟨o, ho, hc⟩ := hZ b hb
    have hlt := (Array.getElem?_eq_some_iff.1 ho).1
    have hs := Below.heap_alloc w (.cells #[.slice none 0 0] 22) b hlt
    refine ⟨hs, ⟨o, hs.trans ho, hc⟩, by omega, fun u hu => ?_⟩
    obtain rfl : u = .slice none 0 0 := by
      have := (show (w.alloc _).heap[w.heap.size]? = _ from hu).symm.trans bO
      simpa using this
    simp [Value.ownBlock]
  have hmem : MemB (stepS k) M w.heap.size n₀ 22 (w.alloc (.cells #[.slice none 0 0] 22)) := ⟨by simp; omega, hnM, hiB, hm.move (by simp) (Below.heap_alloc _ _ _ hm.lt) hfree⟩
  have hit1 := hit.move (by simp) hfree
  obtain ⟨gf, lb, St, hfv, heg, hgv, hst⟩ := iter_gives (eachGives k M w.heap.size n₀ d) hit1 hiB (fun _ h => h)
  subst hfv
  clear hit hit1 hfree hm hZ
  refine (callsIn_wide (n := 9)).1 ?_
  refine callsIn_of_wp_marks Try.func54 rfl trivial ?_ rfl
  simp only [Try.ntmps54, List.size_toArray, List.length_cons, List.length_nil, Nat.reduceAdd, Nat.reduceSub, Array.replicate_succ, Array.replicate_zero, List.push_toArray, List.append_toArray, List.nil_append, List.cons_append]
  gi_wp2
  obtain ⟨w0, hw0⟩ : ∃ w0, w.alloc (.cells #[.slice none 0 0] 22) = w0 := ⟨_, rfl⟩
  have hs0 : w0.heap.size = w.heap.size + 1 := by rw [← hw0]; simp
  rw [hw0] at bO hB0 hmem hst ⊢
  refine wpIn_rangeFunc_M rfl heg hgv hst hmem rfl (fun pre W => (∃ v, Boxed W w.heap.size 22 v ∧ W.ownsRow w.heap.size 3 1 v pre.length (pre.map (Value.int .i64)) ∧ True) ∧ Below n₀ w W)
    ((abidesM_cells (fun s X Y row hs hg hr => holdsRow_own w.heap.size w.heap.size 22 3 1 (fun pre : List Int => pre.length) (fun pre => pre.map (Value.int .i64)) (fun _ _ => True) s X Y row hs hg hr)).and (abidesM_below hn (by omega) hnM))
    ⟨⟨_, bO, World.ownsRow_nil _ _ _ _, trivial⟩, hB0⟩
    (fun x => { tmps := #[.slice none 0 0, .func (.func gf) #[] lb, .pointer (some ⟨w.heap.size, 0, none⟩), undef, .slice none 0 0, .int .i64 x, .func (.func gf) #[] lb, .int .i64 x, undef, undef, undef, undef, undef], defers := [] }) ?assign ?body ?done
  case assign =>
    intro l x W K hK
    gi_wp2
    exact hK
  case body =>
    rintro l pre x W ⟨⟨v, hv, hrow, -⟩, hB⟩ hM hlt
    have hc := hv.cell
    have hsz : w.heap.size ≤ W.heap.size := Nat.le_of_lt hv.lt
    gi_wp2_with (gi_at_builtin; refine wpListIn_appMoves _ rfl _ _ 22 rfl w.heap.size 3 i0 (.int .i64 0) 1 8 Try.underlying22 hi0 hz0 hz1 hz2 rfl (by decide) _ _ _ rfl (hrow.alloc _) ⟨W.heap.size, 0, none⟩ 1 1 [.int .i64 x] rfl rfl (cell_one_new _ _ _) (by simp [Value.oneCell']) (by unfold maxLen; omega) (by omega) (by simp; omega) ?_; intro v' w1 hown' hgrow _ hmv; obtain ⟨g', cap', rfl⟩ := ownsRow_succ hown'; obtain ⟨hv1, hv2, hr2, hk2, hb2⟩ := hv.appended (by decide) hrow hsz (Nat.le_refl _) hown' hgrow; have hc1 := hv1.cell; have hf1 := hv1.frozen)
    have hK1 : KeepRow n₀ w.heap.size 22 W (W.alloc (.cells #[.int .i64 x] 3)) := KeepRow.of_below (by (repeat (first | exact Below.refl _ _ | exact below_drewN _ | refine Below.drew ?_ | refine Below.alloc ?_ (by simp) _ | refine Below.setCell ?_ (by simp) _ | refine below_drewN' ?_ _))) (by omega)
    have hK2 := keepRow_appended (n₀ := n₀) (by decide) (hv.alloc (.cells #[.int .i64 x] 3)) hn hn (by simp; omega) (show Own .i64 3 w.heap.size (W.alloc (.cells #[.int .i64 x] 3)) v pre from hrow.alloc _) (show Own .i64 3 w.heap.size w1 _ (pre ++ [x]) from by unfold Own; rw [List.length_append, List.map_append]; exact hown') hgrow hmv
    exact ⟨⟨hK1.trans hK2.1, hk2⟩, ⟨_, hv2, by rw [List.length_append, List.map_append]; exact hr2, trivial⟩, hB.trans (hb2.mono hn)⟩
  case done =>
    rintro D W hD ⟨⟨v, hv, hrow, -⟩, hB⟩ hM hK
    have hc := hv.cell
    gi_wp2
    refine ⟨by simp, .inl ⟨_, _, rfl, run_takeDeferred hK, ?_⟩⟩
    exact ⟨_, results_tmp rfl _ _ _, v, rfl, ownsRow_putObj hrow _ hK rfl, hB.grown (grownBy_putObj' W D _) (by have := hv.lt; omega) (fun r e => by cases e; omega)⟩
theorem collect8 (k : Bool) (M d n₀ : Nat) (fv : Value) (xs : List Int) (w : World) (Z : Nat → Prop) (hZ : ∀ b, Z b → ∃ o : Obj, w.heap[b]? = some o ∧ o.isCells = true) (hm : MapZ (stepS k) Z M w) (hit : IterOf k M d Z w fv xs) (hn : n₀ ≤ w.heap.size) (hnM : n₀ ≤ M) (hlen : xs.length ≤ 300000000) :
    Calls Try.prog 35 #[fv] w fun e w' => ∃ x, e = .returned x ∧ Own .i64 3 w.heap.size w' x xs ∧ Below n₀ w w' := by
  have HA := hid (appendSeq8 k M d n₀ fv xs w Z hZ hm hit hn hnM hlen)
  clear hm hit hZ
  go_enter Try.func35, Try.ntmps35
  go_wp2_with (go_at_call 54; refine HA.out.mono ?_; rintro e w1 ⟨v1, rfl, ho1, hb1⟩; have HO1 := hid ho1; have HB1 := hid hb1; clear ho1 hb1)
  go_ret
  exact ⟨_, rfl, HO1.out, HB1.out⟩
end Go.Proofs.Ytldjcogjimgnbaa

/-! LawTwice8 -/
namespace Go.Proofs.Ytldjcogjimgnbaa
open Go.RowKit

end Go.Proofs.Ytldjcogjimgnbaa

/-! LawExact8 -/
namespace Go.Proofs.Ytldjcogjimgnbaa
open Go.RowKit

end Go.Proofs.Ytldjcogjimgnbaa

/-! LawStays8 -/
namespace Go.Proofs.Ytldjcogjimgnbaa
open Go.RowKit

theorem plain_canon {k : Bool} {x : Int} (h : PlainS k x) : canonS x = [] := Classical.byContradiction fun hc => hc (by rw [← step_canon (k := k) hc]; exact h.2)
theorem plain_compat {x : Int} (h : PlainS true x) : mapS tabCompat x = [] := by
  have hc := plain_canon h
  have := h.2
  unfold stepS at this
  rw [hc] at this
  exact this
theorem i64_of {x : Int} (h : inI x = true) : I64n x := by
  unfold inI at h
  have h2 := of_decide_eq_true h
  exact h2

end Go.Proofs.Ytldjcogjimgnbaa

/-! LawParts8 -/
namespace Go.Proofs.Ytldjcogjimgnbaa
open Go.RowKit

set_option maxRecDepth 1000000 in
theorem rows_off : (tabCanon.all fun r => decide (r.f < 44032 ∨ 55203 < r.f)) = true ∧ (tabCompat.all fun m => decide (m.f < 44032 ∨ 55203 < m.f)) = true := by decide +kernel
theorem canon_nosplit {c : Int} (h : canonS c ≠ []) : splitS c = [] := by
  obtain ⟨r, hr, rfl⟩ := canon_key h
  have := List.all_eq_true.1 rows_off.1 r hr
  simp only [decide_eq_true_eq] at this
  exact splitS_out (by omega)
theorem compat_nosplit {c : Int} (h : mapS tabCompat c ≠ []) : splitS c = [] := by
  obtain ⟨m, hm, rfl⟩ := map_key h
  have := List.all_eq_true.1 rows_off.2 m hm
  simp only [decide_eq_true_eq] at this
  exact splitS_out (by omega)
theorem i64_of8 {x : Int} (h : inI x = true) : I64n x := by
  unfold inI at h
  have h2 := of_decide_eq_true h
  exact h2
theorem step_inI {k : Bool} {c : Int} (hi : inI c = true) (hs : splitS c = []) : (stepS k c).all inI = true := by
  rw [List.all_eq_true]
  intro x hx
  have := (deep_step (deep_all (k := k) hi) hs).2 x hx
  rw [deepB, Bool.and_eq_true] at this
  exact this.1
theorem compat_step {c : Int} (hca : canonS c = []) : stepS true c = mapS tabCompat c := by
  unfold stepS
  rw [hca]
  rfl
theorem compat_one {c : Int} (hi : inI c = true) (hca : canonS c = []) (hne : mapS tabCompat c ≠ []) : oneS true c = allS true (mapS tabCompat c) := by
  rw [← compat_step hca]
  exact one_parts hi (compat_nosplit hne) (by rw [compat_step hca]; exact hne)
theorem compat_inI {c : Int} (hi : inI c = true) (hca : canonS c = []) (hne : mapS tabCompat c ≠ []) : (mapS tabCompat c).all inI = true := by
  rw [← compat_step hca]
  exact step_inI hi (compat_nosplit hne)
theorem compat_len {c : Int} (hca : canonS c = []) : (mapS tabCompat c).length ≤ 3 := by
  rw [← compat_step hca]
  exact stepS_len true c
theorem split_inI (c : Int) : (splitS c).all inI = true := by
  rw [List.all_eq_true]
  intro x hx
  obtain ⟨h0, h1⟩ := split_letters x hx
  exact decide_eq_true ⟨by omega, by omega⟩
theorem split_len (c : Int) : (splitS c).length ≤ 3 := by
  unfold splitS partsN
  split
  · split <;> simp
  · simp

end Go.Proofs.Ytldjcogjimgnbaa

/-! Dec8g -/
namespace Go.Proofs.Ytldjcogjimgnbaa
open Go.RowKit Go.Shelf

theorem mapZ_none {f : Int → List Int} {Z : Nat → Prop} {M : Nat} {W : World} (h : W.heap[M]? = some (.map #[] 0)) : MapZ f Z M W := ⟨_, _, h, fun e he => by simp at he⟩
theorem Sl.slZ {w : World} {v : Value} {xs : List Int} (h : Sl .i64 w v xs) : SlZ (fun b => ∃ o : Obj, w.heap[b]? = some o ∧ o.isCells = true) w v xs := by
  refine ⟨h, fun a n c e h0 => ?_⟩
  obtain ⟨a1, cap, hv, hl, hm, hh⟩ := h
  rw [e] at hv
  injection hv with e1 e2 e3
  rcases hh with hh | ⟨b, off, ha, hb, hc⟩
  · omega
  · rw [ha] at e1
    injection e1 with e1
    subst e1
    exact cells_of_cell (hc 0 h0)
theorem below_turned {M : Nat} {w w1 w2 w3 : World} (h1 : Below w.heap.size w w1) (hM : w.heap.size ≤ M) (hg : w1.grownBy w2 (some M)) (h3 : Below w.heap.size w2 w3) : Below w.heap.size w w3 :=
  (h1.grown hg h1.size (fun r e => by cases e; exact hM)).trans h3

set_option maxHeartbeats 1000000 in
theorem all8 (k : Bool) (v : Value) (s : List Int) (w : World) (hs : Sl .i64 w v s) (hi : s.all inI = true) (hl : s.length ≤ 1000000) : Calls Try.prog 16 #[v, .bool k] w fun e w' => ∃ x, e = .returned x ∧ Own .i64 3 w.heap.size w' x (allS k s) ∧ Below w.heap.size w w' := by
  have hlen : (allS k s).length ≤ s.length * (3 ^ 4 * 3) := each_len k 4 s
  have HD := hid (fun x (hx : x ∈ s) => deep_five (k := k) (List.all_eq_true.1 hi x hx))
  have HS := hid hs
  obtain ⟨a, cap, hv⟩ := hs.form
  subst hv
  clear hs
  go_enter Try.func16, Try.ntmps16
  go_wp2_with (first
    | (go_at_call 36; refine (newDec8 k _).mono ?_; rintro e w1 ⟨M, rfl, hM, hm1, hb1⟩; have HM1 := hid hm1; have HB1 := hid hb1; have HS1 := hid (Sl.slZ (HS.out.below hb1)); clear hm1 hb1)
    | (go_at_call 37; refine (each8 k M _ s w1 (fun b => ∃ o : Obj, w1.heap[b]? = some o ∧ o.isCells = true) (fun _ h => h) HS1.out).mono ?_; rintro e w2 ⟨rfl, hi2, hb2⟩; have HB2 := hid hb2; have HI2 := hid hi2; clear hb2 hi2)
    | (go_at_call 35; refine (collect8 k M 5 w.heap.size _ (allS k s) w2 _ zn_cells (MapZ.below (fun _ h => h) (mapZ_none HM1.out) HB2.out) (.inr ⟨_, _, s, rfl, HI2.out, rfl, HD.out⟩) (Nat.le_trans HB1.out.size HB2.out.size) hM (by omega)).mono ?_; rintro e w3 ⟨v3, rfl, ho3, hb3⟩; have HO3 := hid ho3; have HB3 := hid hb3; clear ho3 hb3))
  go_ret
  exact ⟨_, rfl, HO3.out.mono (Nat.le_trans HB1.out.size HB2.out.size), below_turned HB1.out hM (grown_some M HB2.out) HB3.out⟩
theorem allDec : DAllOk := fun k v s w hs hi hl => all8 k v s w hs hi hl
end Go.Proofs.Ytldjcogjimgnbaa

/-! Grid -/
namespace Go.Proofs.Ytldjcogjimgnbaa
open Go.RowKit

/-- The value v is a slice that holds the values vs. -/
def Sv (w : World) (v : Value) (vs : List Value) : Prop :=
  ∃ a cap, v = .slice a vs.length cap ∧ vs.length ≤ cap ∧ cap ≤ maxLen ∧
    (cap = 0 ∨ ∃ b off, a = some ⟨b, off, none⟩ ∧ (0 < vs.length → b < w.heap.size) ∧ ∀ i, i < vs.length → w.cell? ⟨b, off + i, none⟩ = some (vs.getD i undef))

/-- The value v is a slice of slices of bytes. -/
def Rws (w : World) (v : Value) (xss : List (List Int)) : Prop :=
  ∃ vs, vs.length = xss.length ∧ Sv w v vs ∧ ∀ i, i < xss.length → Sl .u8 w (vs.getD i undef) (xss.getD i [])

/-- .. that the call itself made, each row too -/
def OwnRows (te tb base : Nat) (w : World) (v : Value) (xss : List (List Int)) : Prop :=
  ∃ vs, vs.length = xss.length ∧ w.ownsRow base te 1 v vs.length vs ∧ ∀ i, i < xss.length → Own .u8 tb base w (vs.getD i undef) (xss.getD i [])

theorem Sv.below {w w' : World} {v : Value} {vs : List Value} (h : Sv w v vs) (hb : Below w.heap.size w w') : Sv w' v vs := by
  obtain ⟨a, cap, hv, hl, hm, h⟩ := h
  refine ⟨a, cap, hv, hl, hm, ?_⟩
  rcases h with h | ⟨b, off, ha, hbb, hc⟩
  · exact .inl h
  · exact .inr ⟨b, off, ha, fun h0 => Nat.lt_of_lt_of_le (hbb h0) hb.size, fun i hi => (hb.cell (p := ⟨b, off + i, none⟩) (hbb (by omega))).trans (hc i hi)⟩
theorem Sv.of_row {base te : Nat} {w : World} {v : Value} {vs : List Value} (h : w.ownsRow base te 1 v vs.length vs) : Sv w v vs := by
  obtain ⟨h1, h2⟩ := h
  rcases h2 with ⟨rfl, hn⟩ | ⟨g, cap, cur, rfl, hb, hg, hnc, hcm, hcs, ht⟩
  · exact ⟨none, 0, by rw [hn], by omega, by unfold maxLen; omega, .inl rfl⟩
  · refine ⟨some ⟨g, 0, none⟩, cap, rfl, hnc, hcm, .inr ⟨g, 0, rfl, fun _ => (Array.getElem?_eq_some_iff.1 hg).1, fun i hi => ?_⟩⟩
    rw [cell_of_row w g (0 + i) cur te (0, 0) hg]
    have : (cur.toList.take (vs.length * 1))[i]? = vs[i]? := by rw [ht]
    rw [List.getElem?_take, if_pos (by omega)] at this
    simp only [Nat.zero_add]
    rw [← Array.getElem?_toList, this, List.getD_eq_getElem?_getD, List.getElem?_eq_getElem hi]
    rfl
theorem Rws.below {w w' : World} {v : Value} {xss : List (List Int)} (h : Rws w v xss) (hb : Below w.heap.size w w') : Rws w' v xss := by
  obtain ⟨vs, h1, h2, h3⟩ := h
  exact ⟨vs, h1, h2.below hb, fun i hi => (h3 i hi).below hb⟩
theorem OwnRows.rws {te tb base : Nat} {w : World} {v : Value} {xss : List (List Int)} (h : OwnRows te tb base w v xss) : Rws w v xss := by
  obtain ⟨vs, h1, h2, h3⟩ := h
  exact ⟨vs, h1, Sv.of_row h2, fun i hi => (h3 i hi).sl⟩
theorem Rws.drewN {w : World} {v : Value} {xss : List (List Int)} (h : Rws w v xss) (n : Nat) : Rws (w.drewN n) v xss := h

theorem ownsRow_below {base te n : Nat} {w w' : World} {v : Value} {vs : List Value} (h : w.ownsRow base te 1 v n vs) (hb : Below w.heap.size w w') : w'.ownsRow base te 1 v n vs := by
  obtain ⟨h1, h2⟩ := h
  refine ⟨h1, ?_⟩
  rcases h2 with h2 | ⟨g, cap, cur, hv, hg, hh, r⟩
  · exact .inl h2
  · exact .inr ⟨g, cap, cur, hv, hg, by rw [hb.block g (Array.getElem?_eq_some_iff.1 hh).1]; exact hh, r⟩
theorem OwnRows.below {te tb base : Nat} {w w' : World} {v : Value} {xss : List (List Int)} (h : OwnRows te tb base w v xss) (hb : Below w.heap.size w w') : OwnRows te tb base w' v xss := by
  obtain ⟨vs, h1, h2, h3⟩ := h
  exact ⟨vs, h1, ownsRow_below h2 hb, fun i hi => (h3 i hi).below hb⟩
theorem ownsRow_mono {base base' te n : Nat} {w : World} {v : Value} {vs : List Value} (h : w.ownsRow base te 1 v n vs) (hb : base' ≤ base) : w.ownsRow base' te 1 v n vs := by
  obtain ⟨h1, h2⟩ := h
  refine ⟨h1, ?_⟩
  rcases h2 with h2 | ⟨g, cap, cur, hv, hg, r⟩
  · exact .inl h2
  · exact .inr ⟨g, cap, cur, hv, by omega, r⟩
theorem OwnRows.mono {te tb base base' : Nat} {w : World} {v : Value} {xss : List (List Int)} (h : OwnRows te tb base w v xss) (hb : base' ≤ base) : OwnRows te tb base' w v xss := by
  obtain ⟨vs, h1, h2, h3⟩ := h
  exact ⟨vs, h1, ownsRow_mono h2 hb, fun i hi => (h3 i hi).mono hb⟩
theorem OwnRows.nil (te tb base : Nat) (w : World) : OwnRows te tb base w (.slice none 0 0) [] := ⟨[], rfl, World.ownsRow_nil _ _ _ _, fun i hi => by simp at hi⟩

theorem Own.oneCell {k : IntKind} {e base : Nat} {w : World} {v : Value} {xs : List Int} (h : Own k e base w v xs) : v.oneCell' = true := by
  rcases h.2 with ⟨rfl, _⟩ | ⟨g, cap, cur, rfl, _⟩ <;> rfl

/-- a row of another type stays while an owned row is written -/
theorem Own.besides {k : IntKind} {e te base n : Nat} {w w' : World} {v v' : Value} {xs : List Int} {vs : List Value} (h : Own k e base w v xs) (hr : w.ownsRow base te 1 v' n vs) (hne : e ≠ te) (hg : w.grownBy w' v'.ownBlock) : Own k e base w' v xs := by
  refine World.ownsRow.kept h hg ?_
  rcases h.2 with ⟨rfl, _⟩ | ⟨g, cap, cur, rfl, _, hh, _⟩
  · exact .inl rfl
  · refine .inr fun hrow => ?_
    rcases hr.2 with ⟨rfl, _⟩ | ⟨g', cap', cur', rfl, _, hh', _⟩
    · simp [Value.ownBlock] at hrow
    · simp [Value.ownBlock] at hrow
      subst hrow
      rw [hh] at hh'
      simp at hh'
      exact hne hh'.2

/-- append(dst, u): u a slice of bytes of the call's own -/
theorem wpList_appRow {P : Program} (w : World) {ops : Array Oper} {rest : List Oper} {o : Oper} {a : Act} {Q : Exit → Act → World → Prop} (hgd : o.guard = none) (s x : Operand) (t : TypeId)
    (ho : o.op = .call { callee := .builtin .append, args := #[s, x], argTypes := #[t, t] })
    (base te tb : Nat) (hne : tb ≠ te) (bytes : Nat) (ht : P.underlying t = some (.slice te)) (hinfo : (P.info? te).map (fun i => (i.zero, i.size, i.bytes)) = some (some (.slice none 0 0), 1, bytes))
    (v : Value) (xss : List (List Int)) (hs : a.eval s = v) (hown : OwnRows te tb base w v xss) (g : Nat) (u : Value) (ys : List Int) (hx : a.eval x = .slice (some ⟨g, 0, none⟩) 1 1) (hc : w.cell? ⟨g, 0, none⟩ = some u) (hu : Own .u8 tb base w u ys)
    (h63 : xss.length + 1 ≤ maxLen) (hbytes : (xss.length + 1) * bytes ≤ 140737488355328) (hbase : base ≤ w.heap.size)
    (h : ∀ v' w', OwnRows te tb base w' v' (xss ++ [ys]) → Below base w w' → wpList P ops Q rest (a.put o.dst v') w') : wpList P ops Q (o :: rest) a w := by
  obtain ⟨i, hi, hz0, hz1, hz2⟩ := info_parts hinfo
  obtain ⟨vs, h1, h2, h3⟩ := hown
  refine wpList_append_own w hgd s x t ho base te i (.slice none 0 0) 1 bytes ht hi hz0 hz1 hz2 rfl (by decide) v vs.length vs hs h2 ⟨g, 0, none⟩ 1 1 [u] hx (by simp) ?_ ?_ (by rw [h1]; exact h63) (by rw [h1]; exact hbytes) hbase ?_
  · intro j u' hj
    match j, hj with
    | 0, hj =>
      simp at hj
      subst hj
      simpa [Addr.add] using hc
    | j + 1, hj => simp at hj
  · intro u' hu'
    simp at hu'
    subst hu'
    exact hu.oneCell
  · intro v' w' hown' hg _
    have hB : Below base w w' := (Below.refl base w).grown hg hbase (fun k hk => (World.ownsRow.lt h2 k hk).1)
    refine h v' w' ⟨vs ++ [u], by simp [h1], by simpa using hown', fun j hj => ?_⟩ hB
    simp at hj
    rcases Nat.lt_or_ge j xss.length with hl | hl
    · have := (h3 j hl).besides h2 hne hg
      simpa [List.getD_eq_getElem?_getD, List.getElem?_append_left hl, List.getElem?_append_left (show j < vs.length by omega)] using this
    · obtain rfl : j = xss.length := by omega
      have := hu.besides h2 hne hg
      simpa [List.getD_eq_getElem?_getD, ← h1] using this

def eqR (xss yss : List (List Int)) : Bool := decide (xss = yss)
theorem eqR_iff {xss yss : List (List Int)} : eqR xss yss = true ↔ xss = yss := by simp [eqR]
theorem eqR_self (xss : List (List Int)) : eqR xss xss = true := eqR_iff.2 rfl

end Go.Proofs.Ytldjcogjimgnbaa

/-! Grid2 -/
namespace Go.Proofs.Ytldjcogjimgnbaa
open Go.RowKit

theorem ext_rows {xs ys : List (List Int)} (hl : xs.length = ys.length) (h : ∀ i, i < xs.length → xs.getD i [] = ys.getD i []) : xs = ys := by
  apply List.ext_getElem hl
  intro i h1 h2
  have := h i h1
  simpa [List.getD_eq_getElem?_getD, List.getElem?_eq_getElem h1, List.getElem?_eq_getElem h2] using this

end Go.Proofs.Ytldjcogjimgnbaa

/-! SetsSpec -/
namespace Go.Proofs.Ytldjcogjimgnbaa

/-- -1 ahead, 0 the same, 1 behind -/
def cmpS : List Int → List Int → Int
  | [], [] => 0
  | [], _ :: _ => -1
  | _ :: _, [] => 1
  | x :: xs, y :: ys => if x < y then -1 else if y < x then 1 else cmpS xs ys

theorem cmpS_range : ∀ a b : List Int, cmpS a b = -1 ∨ cmpS a b = 0 ∨ cmpS a b = 1
  | [], [] => .inr (.inl rfl)
  | [], _ :: _ => .inl rfl
  | _ :: _, [] => .inr (.inr rfl)
  | x :: xs, y :: ys => by
    rw [cmpS]
    split
    · exact .inl rfl
    · split
      · exact .inr (.inr rfl)
      · exact cmpS_range xs ys
theorem cmpS_eq : ∀ a b : List Int, cmpS a b = 0 ↔ a = b
  | [], [] => by simp [cmpS]
  | [], _ :: _ => by simp [cmpS]
  | _ :: _, [] => by simp [cmpS]
  | x :: xs, y :: ys => by
    rw [cmpS]
    split
    · simp; omega
    · split
      · simp; omega
      · rw [cmpS_eq xs ys, List.cons.injEq]
        constructor
        · intro h; exact ⟨by omega, h⟩
        · intro h; exact h.2
theorem cmpS_turn : ∀ a b : List Int, cmpS b a = -cmpS a b
  | [], [] => rfl
  | [], _ :: _ => rfl
  | _ :: _, [] => rfl
  | x :: xs, y :: ys => by
    rw [cmpS, cmpS]
    by_cases h1 : x < y
    · rw [if_neg (by omega), if_pos h1, if_pos h1]; rfl
    · by_cases h2 : y < x
      · rw [if_pos h2, if_neg h1, if_pos h2]
      · rw [if_neg h2, if_neg h1, if_neg h1, if_neg h2, cmpS_turn xs ys]
theorem cmpS_trans : ∀ a b c : List Int, cmpS a b ≤ 0 → cmpS b c ≤ 0 → cmpS a c ≤ 0 ∧ (cmpS a b < 0 → cmpS a c < 0) ∧ (cmpS b c < 0 → cmpS a c < 0)
  | [], [], [] => by simp [cmpS]
  | [], [], _ :: _ => by simp [cmpS]
  | [], _ :: _, [] => by simp [cmpS]
  | [], _ :: _, _ :: _ => by simp [cmpS]
  | _ :: _, [], _ => by simp [cmpS]
  | _ :: _, _ :: _, [] => by simp [cmpS]
  | x :: xs, y :: ys, z :: zs => by
    intro h1 h2
    have ih := cmpS_trans xs ys zs
    have e1 : cmpS (x :: xs) (y :: ys) = if x < y then -1 else if y < x then 1 else cmpS xs ys := by rw [cmpS]
    have e2 : cmpS (y :: ys) (z :: zs) = if y < z then -1 else if z < y then 1 else cmpS ys zs := by rw [cmpS]
    have e3 : cmpS (x :: xs) (z :: zs) = if x < z then -1 else if z < x then 1 else cmpS xs zs := by rw [cmpS]
    generalize cmpS (x :: xs) (y :: ys) = p at *
    generalize cmpS (y :: ys) (z :: zs) = q at *
    generalize cmpS (x :: xs) (z :: zs) = r at *
    split at e1
    · split at e2
      · rw [if_pos (by omega)] at e3; omega
      · split at e2
        · omega
        · rw [if_pos (by omega)] at e3; omega
    · split at e1
      · omega
      · split at e2
        · rw [if_pos (by omega)] at e3; omega
        · split at e2
          · omega
          · rw [if_neg (by omega), if_neg (by omega)] at e3
            rw [e1] at h1 ⊢
            rw [e2] at h2 ⊢
            rw [e3]
            exact ih h1 h2
theorem cmpS_pre : ∀ (a b c : List Int), cmpS (a ++ b) (a ++ c) = cmpS b c
  | [], _, _ => rfl
  | x :: a, b, c => by
    rw [List.cons_append, List.cons_append, cmpS, if_neg (by omega), if_neg (by omega), cmpS_pre a b c]

/-- no one is ahead of the one before it -/
def sortedS : List (List Int) → Bool
  | [] => true
  | [_] => true
  | a :: b :: r => decide (0 ≤ cmpS b a) && sortedS (b :: r)

theorem sortedS_cons {a : List Int} {l : List (List Int)} (h : sortedS (a :: l) = true) : sortedS l = true ∧ ∀ x ∈ l, cmpS a x ≤ 0 := by
  induction l generalizing a with
  | nil => exact ⟨rfl, fun _ hx => by cases hx⟩
  | cons b r ih =>
    simp only [sortedS, Bool.and_eq_true, decide_eq_true_eq] at h
    obtain ⟨h1, h2⟩ := h
    have ht := cmpS_turn b a
    refine ⟨h2, fun x hx => ?_⟩
    rcases List.mem_cons.1 hx with rfl | hx
    · omega
    · exact (cmpS_trans a b x (by omega) ((ih h2).2 x hx)).1
theorem sortedS_mk {a : List Int} {l : List (List Int)} (h : sortedS l = true) (h1 : ∀ x ∈ l, cmpS a x ≤ 0) : sortedS (a :: l) = true := by
  match l, h, h1 with
  | [], _, _ => rfl
  | b :: r, h, h1 =>
    simp only [sortedS, Bool.and_eq_true, decide_eq_true_eq]
    have := cmpS_turn a b
    exact ⟨by have := h1 b (List.mem_cons_self ..); omega, h⟩

/-- rows of the same elements, both in order, are the same -/
theorem sorted_same : ∀ (l m : List (List Int)), l.Perm m → sortedS l = true → sortedS m = true → l = m
  | [], m, hp, _, _ => (List.Perm.nil_eq hp)
  | a :: l, [], hp, _, _ => by have := hp.length_eq; simp at this
  | a :: l, b :: m, hp, h1, h2 => by
    have s1 := sortedS_cons h1
    have s2 := sortedS_cons h2
    have hab : a = b := by
      have ha : a ∈ b :: m := hp.mem_iff.1 (List.mem_cons_self ..)
      have hb : b ∈ a :: l := hp.mem_iff.2 (List.mem_cons_self ..)
      rcases List.mem_cons.1 ha with rfl | ha
      · rfl
      · rcases List.mem_cons.1 hb with hb | hb
        · exact hb.symm
        · have e1 := s2.2 a ha
          have e2 := s1.2 b hb
          have e3 := cmpS_turn a b
          exact (cmpS_eq a b).1 (by omega)
    subst hab
    rw [sorted_same l m (List.perm_cons a |>.1 hp) s1.1 s2.1]

end Go.Proofs.Ytldjcogjimgnbaa

/-! SetsAt -/
namespace Go.Proofs.Ytldjcogjimgnbaa

theorem cmpS_drop : ∀ (k : Nat) (xs ys : List Int), k ≤ xs.length → k ≤ ys.length → (∀ i, i < k → xs.getD i 0 = ys.getD i 0) → cmpS xs ys = cmpS (xs.drop k) (ys.drop k)
  | 0, _, _, _, _, _ => rfl
  | k + 1, [], _, h, _, _ => by simp at h
  | k + 1, _ :: _, [], _, h, _ => by simp at h
  | k + 1, x :: xs, y :: ys, h1, h2, h => by
    have h0 : x = y := by simpa using h 0 (by omega)
    subst h0
    rw [cmpS, if_neg (by omega), if_neg (by omega), List.drop_succ_cons, List.drop_succ_cons]
    exact cmpS_drop k xs ys (by simpa using h1) (by simpa using h2) fun i hi => by simpa using h (i + 1) (by omega)
theorem cmpS_head {k : Nat} {xs ys : List Int} (h1 : k < xs.length) (h2 : k < ys.length) (h : ∀ i, i < k → xs.getD i 0 = ys.getD i 0) :
    cmpS xs ys = if xs.getD k 0 < ys.getD k 0 then -1 else if ys.getD k 0 < xs.getD k 0 then 1 else cmpS (xs.drop (k + 1)) (ys.drop (k + 1)) := by
  rw [cmpS_drop k xs ys (by omega) (by omega) h, drop_getD (x := xs.getD k 0) rfl h1, drop_getD (x := ys.getD k 0) rfl h2, cmpS]
theorem cmpS_lt {k : Nat} {xs ys : List Int} (h1 : k < xs.length) (h2 : k < ys.length) (h : ∀ i, i < k → xs.getD i 0 = ys.getD i 0) (hl : xs.getD k 0 < ys.getD k 0) : cmpS xs ys = -1 := by
  rw [cmpS_head h1 h2 h, if_pos hl]
theorem cmpS_gt {k : Nat} {xs ys : List Int} (h1 : k < xs.length) (h2 : k < ys.length) (h : ∀ i, i < k → xs.getD i 0 = ys.getD i 0) (hl : ys.getD k 0 < xs.getD k 0) : cmpS xs ys = 1 := by
  rw [cmpS_head h1 h2 h, if_neg (by omega), if_pos hl]
theorem cmpS_end {k : Nat} {xs ys : List Int} (h1 : k ≤ xs.length) (h2 : k ≤ ys.length) (h : ∀ i, i < k → xs.getD i 0 = ys.getD i 0) (he : k = xs.length ∨ k = ys.length) :
    cmpS xs ys = if xs.length < ys.length then -1 else if ys.length < xs.length then 1 else 0 := by
  rw [cmpS_drop k xs ys h1 h2 h]
  have e1 : (xs.drop k).length = xs.length - k := List.length_drop
  have e2 : (ys.drop k).length = ys.length - k := List.length_drop
  generalize xs.drop k = p at e1 ⊢
  generalize ys.drop k = q at e2 ⊢
  match p, q with
  | [], [] => simp at e1 e2; rw [if_neg (by omega), if_neg (by omega)]; rfl
  | [], _ :: _ => simp at e1 e2; rw [if_pos (by omega)]; rfl
  | _ :: _, [] => simp at e1 e2; rw [if_neg (by omega), if_pos (by omega)]; rfl
  | _ :: _, _ :: _ => simp at e1 e2; omega

/-- no one of the first k is ahead of the one before it -/
theorem sortedS_iff : ∀ (l : List (List Int)), sortedS l = true ↔ ∀ i, 1 ≤ i → i < l.length → 0 ≤ cmpS (l.getD i []) (l.getD (i - 1) [])
  | [] => by simp [sortedS]
  | [a] => by simp [sortedS]; intro i h1 h2; omega
  | a :: b :: r => by
    rw [sortedS, Bool.and_eq_true, decide_eq_true_eq, sortedS_iff (b :: r)]
    constructor
    · rintro ⟨h0, h⟩ i h1 h2
      match i, h1, h2 with
      | 1, _, _ => simpa using h0
      | i + 2, _, h2 =>
        have := h (i + 1) (by omega) (by simpa using h2)
        simpa using this
    · intro h
      refine ⟨by simpa using h 1 (by omega) (by simp), fun i h1 h2 => ?_⟩
      have := h (i + 1) (by omega) (by simpa using h2)
      match i, h1 with
      | i + 1, _ => simpa using this
end Go.Proofs.Ytldjcogjimgnbaa

/-! RefSets1 -/
namespace Go.Proofs.Ytldjcogjimgnbaa
open Go.RowKit

theorem ret_i64 {a b : Int} (h : a = b) : Ending.returned (.int .i64 a) = .returned (.int .i64 b) := by rw [h]

end Go.Proofs.Ytldjcogjimgnbaa

/-! RefSets2 -/
namespace Go.Proofs.Ytldjcogjimgnbaa
open Go.RowKit

end Go.Proofs.Ytldjcogjimgnbaa
