/- Several texts in one: Dec8d, Dec8e, Dec8f, LawTwice8, LawExact8, LawStays8. -/
import Derived.Test.YtjiheplifmakpaaPk15
import Derived.Test.YtjiheplifmakpaaPk14
import Derived.Test.YtjiheplifmakpaaPk10
/-! Dec8d -/
namespace Go.Proofs.Ytjiheplifmakpaa
open Go.RowKit Go.Shelf
attribute [local go_sem] Oper.semAt_some

theorem wideD (m : Nat) : Fence.wide.depth.isSome = true → 1 ≤ m := fun h => by cases h

set_option maxRecDepth 100000 in
set_option maxHeartbeats 2000000 in
theorem valuesGives (f : Int → List Int) (M B n₀ b : Nat) (xs : List Int) :
    GivesM Try.prog 46 #[.pointer (some ⟨b, 0, none⟩)] f M B n₀ 22 (fun W => StV (FreeOf B 22 W) W b xs) xs := by
  intro m l J W hJ hY h0 hSt hM
  obtain ⟨v, hv, hb, hs⟩ := hSt
  have hc0 := hv.cell
  obtain ⟨a, cap, hvf⟩ := hs.1.form
  subst hvf
  have hlen := hs.1.len
  obtain ⟨n, hn⟩ : ∃ n, n = xs.length := ⟨_, rfl⟩
  have HN := hid hn
  have HS := hid hs
  have HH := hid (show xs.take n = xs from by rw [hn, List.take_length])
  have HYY := hid hY
  have HTK := hid (fun j (hj : j < n) => (show xs.take (j + 1) = xs.take j ++ [xs.getD j 0] from by
    have e : xs.getD j 0 = xs[j]'(by omega) := by rw [List.getD_eq_getElem?_getD, List.getElem?_eq_getElem (by omega)]; rfl
    rw [e, List.take_succ_eq_append_getElem (by omega)]))
  rw [← hn] at hlen hc0
  clear hY hs hn hb hJ
  refine callsIn_of_wp Try.func46 rfl trivial ?_ rfl
  simp only [Try.ntmps46, List.size_toArray, List.length_cons, List.length_nil, Nat.reduceAdd, Nat.reduceSub, Array.replicate_succ, Array.replicate_zero, List.push_toArray, List.append_toArray, List.nil_append, List.cons_append]
  gi_wp2
  gi_loopw [7] (fun iv wr => ∃ j : Nat, j ≤ n ∧ iv = .int .i64 j ∧ Hid (J (xs.take j) wr) ∧ Hid (MemB f M B n₀ 22 wr) ∧ Hid (SlZ (FreeOf B 22 wr) wr (.slice a n cap) xs)) (fun iv _ => n - (intOf iv).toNat)
  case atStart => exact ⟨0, by omega, rfl, h0, hM, by show SlZ _ _ _ _; rw [HN.out]; exact HS.out⟩
  case round =>
    obtain ⟨j, hj, rfl, hJj, hMj, hSj⟩ := hrel
    by_cases hlt : j < n
    · have hsl := hSj.out.1
      obtain ⟨a2, c2, hv2, hq2, -, h2⟩ := hsl
      injection hv2 with e1 e2 e3
      subst e1 e3
      rcases h2 with hc | ⟨b1, o1, rfl, hbb, hc⟩
      · have := HN.out
        omega
      have d1 := hc j (by have := HN.out; omega)
      have HTK2 := hid (HTK.out j hlt)
      have HY2 := HYY.out m (xs.take j) (xs.getD j 0) wr hJj.out hMj.out (by rw [List.length_take]; have := HN.out; omega)
      clear hc hbb HTK hq2 e2 HYY
      generalize xs.getD j 0 = y at d1 HTK2 HY2
      obtain ⟨fn, tmps, assign, body, hy, hR⟩ := HY2
      gi_wp2_with ((try refine ⟨wideD _, ?_⟩); refine (round_anyDepth rfl hR).mono ?_; clear hR; rintro e W2 ⟨rfl, hJ2, hk2⟩; have HJ2 := hid hJ2; have HK2 := hid hk2; clear hJ2 hk2)
      go_roundw
      case rel => exact ⟨j + 1, by omega, by go_num, by show J _ _; rw [HTK2.out]; exact HJ2.out, hMj.out.kr HK2.out, hSj.out.move HK2.out.1.1.size (fun b hb => HK2.out.free hMj.out.box hb)⟩
      case measure => simp [intOf]; omega
    · obtain rfl : j = n := by omega
      gi_wp2
      exact bodyPost_end (results_none rfl _ _ _) rfl ⟨⟨_, rfl⟩, by rw [← HH.out]; exact hJj.out, hMj.out⟩
end Go.Proofs.Ytjiheplifmakpaa

/-! Dec8e -/
namespace Go.Proofs.Ytjiheplifmakpaa
open Go.RowKit Go.Shelf
attribute [local go_sem] Oper.semAt_some

/-- the return through the marks, whatever abides their turn -/
theorem leaves_marksM {F : Fence} {n : Nat} {P : Program} {fn : Func} {tmps : Array Value} {R : Ending → World → Prop} {base : Nat} {T : World → Prop}
    (hT : ∀ w l o o', base ≤ l → w.heap[l]? = some o → o.isCells = false → T w → T (w.putObj l o')) : ∀ (ds : List Deferred) (w : World), Marks base w ds → T w →
    (∀ w', T w' → LeavesInM F n P fn tmps R [] .returning w') → LeavesInM F n P fn tmps R ds .returning w
  | [], w, _, ht, h => h w ht
  | d :: ds, w, ⟨⟨D, hd, hb, hh, hn⟩, ht⟩, hw, h => by
    subst hd
    refine ⟨by simp, .inl ⟨D, _, rfl, run_takeDeferred hh, ?_⟩⟩
    exact leaves_marksM hT ds _ (ht.turned fun D' hD' => World.putObj_heap_other (fun e => hn _ hD' (by rw [e]))) (hT w D _ _ hb hh rfl hw) h

/-- what the iterator has in hand: its slice, its decomposer, the yield that it was called at -/
structure EachSt (k : Bool) (M B : Nat) (t : TypeId) (v yv : Value) (ps : List Int) (b2 Y : Nat) (X : World) : Prop where
  slice : SlZ (FreeOf B t X) X v ps
  free2 : FreeOf B t X b2
  dec : X.heap[b2]? = some (decBox k M)
  freeY : FreeOf B t X Y
  yield : X.heap[Y]? = some (.cells #[yv] 53)
theorem EachSt.move {k : Bool} {M B : Nat} {t : TypeId} {v yv : Value} {ps : List Int} {b2 Y : Nat} {X X' : World} (h : EachSt k M B t v yv ps b2 Y X) (hs : X.heap.size ≤ X'.heap.size) (hz : ∀ b, FreeOf B t X b → X'.heap[b]? = X.heap[b]? ∧ FreeOf B t X' b) : EachSt k M B t v yv ps b2 Y X' :=
  ⟨h.slice.move hs hz, (hz _ h.free2).2, (hz _ h.free2).1.trans h.dec, (hz _ h.freeY).2, (hz _ h.freeY).1.trans h.yield⟩
theorem free_turn {B : Nat} {t : TypeId} {X X' : World} {row : Option Nat} (hi : InvB B t X) (hg : X.grownBy X' row) (hr : NoCells X row) : ∀ b, FreeOf B t X b → X'.heap[b]? = X.heap[b]? ∧ FreeOf B t X' b := fun _ hb => ⟨hb.same hg hr, hb.grown hi hg hr⟩
theorem free_zn {B M : Nat} {t : TypeId} {X X' : World} (hi : InvB B t X) (hg : X.grownBy X' (some M)) (hr : NoCells X (some M)) : ∀ b, Zn (FreeOf B t X) X X' b → FreeOf B t X' b := fun _ hb => by
  rcases hb.2 with h | h
  · exact h.grown hi hg hr
  · exact FreeOf.new hi hg hr h hb.1

theorem iter_gives {k : Bool} {M B n₀ d : Nat} {Z : Nat → Prop} {w : World} {fv : Value} {xs : List Int}
    (HI : ∀ b3 b2 ps, (∀ c ∈ ps, deepP k d c) → GivesM Try.prog 42 #[.pointer (some ⟨b3, 0, none⟩), .pointer (some ⟨b2, 0, none⟩)] (stepS k) M B n₀ 22 (fun W => StE k M (FreeOf B 22 W) W b3 b2 ps) (allS k ps))
    (h : IterOf k M d Z w fv xs) (hi : InvB B 22 w) (hZ : ∀ b, Z b → FreeOf B 22 w b) :
    ∃ gf lb St, fv = .func (.func gf) #[] lb ∧ (∀ args w, (callFunc gf args).run Try.prog w = .ok (.enter gf args) w) ∧ GivesM Try.prog gf lb (stepS k) M B n₀ 22 St xs ∧ ∀ o o', St ((w.alloc o).alloc o') := by
  have hz : ∀ o o' b, Z b → ((w.alloc o).alloc o').heap[b]? = w.heap[b]? ∧ FreeOf B 22 ((w.alloc o).alloc o') b := fun o o' b hb => by
    have hg := (((Below.refl w.heap.size w).alloc (Nat.le_refl _) o).alloc (by simp) o')
    have hg' : w.grownBy ((w.alloc o).alloc o') none := ⟨hg.os, hg.tape, hg.output, hg.size, fun k hk _ => hg.block k hk⟩
    exact free_turn hi hg' (NoCells.none _) b (hZ b hb)
  rcases h with ⟨b, h1, h2⟩ | ⟨b3, b2, ps, h1, h2, h3, h4⟩
  · exact ⟨_, _, _, h1, enters_of Try.func46 (by kernel_rfl) rfl, valuesGives (stepS k) M B n₀ b xs, fun o o' => h2.move (by simp; omega) (hz o o')⟩
  · exact ⟨_, _, _, h1, enters_of Try.func42 (by kernel_rfl) rfl, by rw [h3]; exact HI b3 b2 ps h4, fun o o' => h2.move (by simp; omega) (hz o o')⟩

set_option maxRecDepth 100000 in
set_option maxHeartbeats 4000000 in
theorem eachStep (k : Bool) (M B n₀ d : Nat)
    (HI : ∀ d', d' + 1 = d → ∀ b3 b2 ps, (∀ c ∈ ps, deepP k d' c) → GivesM Try.prog 42 #[.pointer (some ⟨b3, 0, none⟩), .pointer (some ⟨b2, 0, none⟩)] (stepS k) M B n₀ 22 (fun W => StE k M (FreeOf B 22 W) W b3 b2 ps) (allS k ps))
    (b3 b2 : Nat) (ps : List Int) (hps : ∀ c ∈ ps, deepP k d c) : GivesM Try.prog 42 #[.pointer (some ⟨b3, 0, none⟩), .pointer (some ⟨b2, 0, none⟩)] (stepS k) M B n₀ 22 (fun W => StE k M (FreeOf B 22 W) W b3 b2 ps) (allS k ps) := by
  intro m l J W hJ hY h0 hSt hM
  obtain ⟨⟨v, hv, hb3, hs⟩, hb2, hdec⟩ := hSt
  have hMlt := hM.map.lt
  have hgY := World.grownBy_alloc W (.cells #[.func (.yield l) #[] #[]] 53) none
  have hmY := hM.grown hgY (NoCells.none _) (by simp)
  have hfY := free_turn hM.box hgY (NoCells.none _)
  have hYb := Boxed.new W 53 (.func (.yield l) #[] #[])
  have hES : EachSt k M B 22 v (.func (.yield l) #[] #[]) ps b2 W.heap.size (W.alloc (.cells #[.func (.yield l) #[] #[]] 53)) :=
    ⟨hs.move hgY.size hfY, (hfY _ hb2).2, (hfY _ hb2).1.trans hdec, FreeOf.new hM.box hgY (NoCells.none _) (Nat.le_refl _) ⟨_, hYb, rfl⟩, hYb⟩
  have hJY := hJ.alloc h0 (.cells #[.func (.yield l) #[] #[]] 53)
  have hc0 := hv.cell
  have hc1 := (hv.alloc (.cells #[.func (.yield l) #[] #[]] 53)).cell
  obtain ⟨a, cap, hvf⟩ := hs.1.form
  subst hvf
  have hlen := hs.1.len
  obtain ⟨n, hn⟩ : ∃ n, n = ps.length := ⟨_, rfl⟩
  rw [← hn] at hlen hc0 hc1 hES
  have HN := hid hn
  have HES := hid hES
  have HMY := hid hmY
  have HJY := hid hJY
  have HJ := hid hJ
  have HYY := hid hY
  have HPS := hid hps
  clear hn hES hmY hJY hJ hY hps hs hb2 hb3 hdec hfY hYb hM h0 hgY hv hc0
  refine callsIn_of_wp_marks Try.func42 rfl trivial ?_ rfl
  simp only [Try.ntmps42, List.size_toArray, List.length_cons, List.length_nil, Nat.reduceAdd, Nat.reduceSub, Array.replicate_succ, Array.replicate_zero, List.push_toArray, List.append_toArray, List.nil_append, List.cons_append]
  gi_wp2
  refine wpIn_loop (fun a' X => ∃ (j : Nat) (u5 u10 u11 u12 u13 u14 u15 u21 : Value) (ds : List Deferred), j ≤ n ∧ a' = { tmps := #[.func (.yield l) #[] #[], .pointer (some ⟨b3, 0, none⟩), .pointer (some ⟨b2, 0, none⟩), .pointer (some ⟨W.heap.size, 0, none⟩), undef, u5, undef, .slice a n cap, .int .i64 n, .int .i64 j, u10, u11, u12, u13, u14, u15, undef, undef, undef, undef, undef, u21], defers := ds } ∧ Hid (J (allS k (ps.take j)) X) ∧ Hid (MemB (stepS k) M B n₀ 22 X) ∧ Hid (EachSt k M B 22 (.slice a n cap) (.func (.yield l) #[] #[]) ps b2 W.heap.size X) ∧ Hid (W.heap.size ≤ X.heap.size) ∧ Hid (Marks W.heap.size X ds))
    (fun a' _ => n - (intOf (a'.tmps.getD 9 undef)).toNat) ?start ?round
  case start => exact ⟨0, undef, undef, undef, undef, undef, undef, undef, undef, [], Nat.zero_le _, rfl, HJY.out, HMY.out, HES.out, by show _ ≤ _; simp, trivial⟩
  case round =>
    rintro a' X ⟨j, u5, u10, u11, u12, u13, u14, u15, u21, ds, hj, rfl, hJj, hMj, hEj, hsz, hmk⟩
    by_cases hlt : j < n
    · have hcj : deepP k d (ps.getD j 0) := HPS.out _ (by
        have e : ps.getD j 0 = ps[j]'(by have := HN.out; omega) := by rw [List.getD_eq_getElem?_getD, List.getElem?_eq_getElem (by have := HN.out; omega)]; rfl
        rw [e]
        exact List.getElem_mem _)
      have HTK2 := hid (show allS k (ps.take (j + 1)) = allS k (ps.take j) ++ oneS k (ps.getD j 0) from by
        have e : ps.getD j 0 = ps[j]'(by have := HN.out; omega) := by rw [List.getD_eq_getElem?_getD, List.getElem?_eq_getElem (by have := HN.out; omega)]; rfl
        rw [e, List.take_succ_eq_append_getElem (by have := HN.out; omega), allS_app]
        congr 1
        unfold allS; simp)
      have HLE := hid (show (allS k (ps.take j)).length + (oneS k (ps.getD j 0)).length ≤ (allS k ps).length from by
        have h2 : allS k ps = allS k (ps.take (j + 1)) ++ allS k (ps.drop (j + 1)) := by rw [← allS_app, List.take_append_drop]
        rw [h2, HTK2.out]
        simp)
      obtain ⟨a2, c2, hv2, hq2, -, h2⟩ := hEj.out.slice.1
      injection hv2 with e1 e2 e3
      subst e1 e3
      rcases h2 with hc | ⟨b1, o1, rfl, hbb, hc⟩
      · have := HN.out
        omega
      have d1 := hc j (by have := HN.out; omega)
      have hbx : Box 49 [.bool k, .map (some M)] b2 X := hEj.out.dec
      have d2 := hbx.cell 0
      have d3 := hbx.ice 0
      have d4 := hbx.cell 1
      have d5 := hbx.ice 1
      simp only [List.getElem?_cons_zero, List.getElem?_cons_succ] at d2 d4
      clear hc hbb hq2 e2 hbx
      generalize ps.getD j 0 = c at d1 hcj HTK2 HLE
      obtain ⟨P, hP⟩ : ∃ P, P = allS k (ps.take j) := ⟨_, rfl⟩
      rw [← hP] at hJj HTK2 HLE
      clear hP
      obtain ⟨d', rfl⟩ : ∃ d', d = d' + 1 := by
        cases d with
        | zero => exact hcj.elim
        | succ d' => exact ⟨d', rfl⟩
      have HF := hid (full8 k M d' c X (FreeOf B 22 X) hcj (fun b h => h.1) hMj.out.map)
      have HI' := hid (HI d' rfl)
      clear HI hcj
      gi_wp2_with (refine ⟨trivial, wideD _, ?_⟩; gi_at_call 25; refine (callsIn_wide.2 HF.out).mono ?_; rintro e X2 ⟨fv, rfl, hg2, hm2, hit2⟩)
      have hnc := hMj.out.map.nocells
      have hi2 := hMj.out.box.grown hg2 hnc
      have hM2 : MemB (stepS k) M B n₀ 22 X2 := ⟨Nat.le_trans hMj.out.size hg2.size, hMj.out.above, hi2, hm2.mono (free_zn hMj.out.box hg2 hnc)⟩
      have hE2 := hEj.out.move hg2.size (free_turn hMj.out.box hg2 hnc)
      have hJ2 := HJ.out _ X X2 (some M) hJj.out hg2 (fun r e => by cases e; exact ⟨.inl rfl, hnc M rfl⟩)
      have hmk2 : Marks W.heap.size X2 ds := hmk.out.turned (fun D hD => hg2.block D (hmk.out.lt D hD) (fun e => by
        have h1 := (hmk.out.at hD).1
        have h2 : D = M := by simpa using e
        omega))
      have hsz2 : W.heap.size ≤ X2.heap.size := Nat.le_trans hsz.out hg2.size
      obtain ⟨gf, lb, St, hfv, heg, hgv, hst⟩ := iter_gives HI'.out hit2 hi2 (free_zn hMj.out.box hg2 hnc)
      subst hfv
      clear hit2 hm2 HF HI' d1 d2 d3 d4 d5 hEj hMj hJj hmk
      have HYP := hid (fun m' pre x (Z1 : World) (h : J (P ++ pre) Z1) (hm : MemB (stepS k) M B n₀ 22 Z1) (hl : pre.length < (oneS k c).length) => HYY.out m' (P ++ pre) x Z1 h hm (by rw [List.length_append]; have := HLE.out; omega))
      refine wpIn_rangeFunc_M rfl heg hgv hst hM2 rfl (fun pre Z1 => J (P ++ pre) Z1 ∧ (InvB B 22 Z1 ∧ EachSt k M B 22 (.slice (some ⟨b1, o1, none⟩) n cap) (.func (.yield l) #[] #[]) ps b2 W.heap.size Z1) ∧ Marks W.heap.size Z1 ds)
        (((HJ.out.mono hsz2).fn (fun pre => P ++ pre)).and ((abidesM_cells (fun _ _ _ _ hs hg hr => ⟨hs.1.grown hg hr, hs.2.move hg.size (free_turn hs.1 hg hr)⟩)).and (abidesM_marks hMlt hmk2.lt)))
        ⟨by rw [List.append_nil]; exact hJ2, ⟨hi2, hE2⟩, hmk2⟩
        (fun x => { tmps := #[.func (.yield l) #[] #[], .pointer (some ⟨b3, 0, none⟩), .pointer (some ⟨b2, 0, none⟩), .pointer (some ⟨W.heap.size, 0, none⟩), undef, .int .i64 c, .int .i64 x, .slice (some ⟨b1, o1, none⟩) n cap, .int .i64 n, .int .i64 j, .bool true, .pointer (some ⟨b1, o1 + j, none⟩), .int .i64 c, .agg #[.bool k, .map (some M)], .int .i64 c, .func (.func gf) #[] lb, .int .i64 x, undef, undef, undef, undef, u21], defers := [] }) ?assign ?body ?done
      case assign =>
        intro l x W K hK
        gi_wp2
        exact hK
      case body =>
        rintro l2 pre x X3 ⟨hJ3, ⟨hi3, hE3⟩, hmk3⟩ hM3 hl3
        have hbY : Boxed X3 W.heap.size 53 (.func (.yield l) #[] #[]) := hE3.yield
        have hcY := hbY.cell
        have HY2 := HYP.out m pre x X3 hJ3 hM3 hl3
        have HE3 := hid hE3
        have HI3 := hid hi3
        have HK3 := hid hmk3
        clear hbY hE3 hi3 hmk3 hJ3 hM3
        obtain ⟨fn, tmps, assign, body, hy, hR⟩ := HY2
        gi_wp2_with ((try refine ⟨wideD _, ?_⟩); refine (round_anyDepth rfl hR).mono ?_; clear hR; rintro e X4 ⟨rfl, hJ4, hk4⟩; have HJ4 := hid hJ4; have HK4 := hid hk4; clear hJ4 hk4)
        exact ⟨HK4.out, by rw [← List.append_assoc]; exact HJ4.out, ⟨HK4.out.1.inv HI3.out, HE3.out.move HK4.out.1.1.size (fun b hb => HK4.out.free HI3.out hb)⟩, HK3.out.others HK4.out.2⟩
      case done =>
        rintro D X3 hD ⟨hJ3, ⟨hi3, hE3⟩, hmk3⟩ hM3 hK
        obtain ⟨j2, hj2⟩ : ∃ j2, j2 = j + 1 := ⟨_, rfl⟩
        have ej : (j : Int) + 1 = (j2 : Int) := by omega
        have wj : wrap64 (j2 : Int) = (j2 : Int) := by unfold wrap64; omega
        have hm2 := hmk3.cons (Nat.le_trans hsz2 hD) hK fun D' h' => Nat.lt_of_lt_of_le (hmk2.lt D' h') hD
        have hle2 : j2 ≤ n := by rw [hj2]; exact hlt
        have hlt2 : n - j2 < n - j := by rw [hj2]; exact Nat.sub_lt_sub_left hlt (Nat.lt_succ_self j)
        rw [← HTK2.out, ← hj2] at hJ3
        have hs3 : W.heap.size ≤ X3.heap.size := Nat.le_of_lt (Nat.lt_of_le_of_lt (Nat.le_trans hsz2 hD) (Array.getElem?_eq_some_iff.1 hK).1)
        clear hj2 hmk3 hgv hst heg HYP HLE HTK2
        gi_wp2
        refine ⟨⟨j2, _, _, _, _, _, _, _, _, _ :: ds, hle2, rfl, hJ3, hM3, hE3, hs3, hm2⟩, ?_⟩
        simpa [intOf] using hlt2
    · obtain rfl : j = n := by omega
      have hJn := hJj.out
      rw [show ps.take j = ps by rw [HN.out, List.take_length]] at hJn
      gi_wp2
      refine leaves_marksM (T := fun w' => J (allS k ps) w' ∧ MemB (stepS k) M B n₀ 22 w') (fun w' l' o o' hl hlo hc ht => ⟨HJ.out.putObj ht.1 o' hl hlo hc, ht.2.grown (grownBy_putObj' w' l' o') (fun r e => by cases e; exact ⟨o, hlo, hc⟩) (by simp; omega)⟩) ds X hmk.out ⟨hJn, hMj.out⟩ fun w' hw' => ?_
      exact ⟨_, results_none rfl _ _ _, ⟨_, rfl⟩, hw'⟩
theorem eachGives (k : Bool) (M B n₀ : Nat) : ∀ (d : Nat) (b3 b2 : Nat) (ps : List Int), (∀ c ∈ ps, deepP k d c) → GivesM Try.prog 42 #[.pointer (some ⟨b3, 0, none⟩), .pointer (some ⟨b2, 0, none⟩)] (stepS k) M B n₀ 22 (fun W => StE k M (FreeOf B 22 W) W b3 b2 ps) (allS k ps) := by
  intro d
  induction d with
  | zero => exact eachStep k M B n₀ 0 (fun d' h => by omega)
  | succ d ih => exact eachStep k M B n₀ (d + 1) (fun d' h => by cases h; exact ih)
end Go.Proofs.Ytjiheplifmakpaa

/-! Dec8f -/
namespace Go.Proofs.Ytjiheplifmakpaa
open Go.RowKit Go.Shelf
attribute [local go_sem] Oper.semAt_some

set_option maxRecDepth 100000 in
set_option maxHeartbeats 4000000 in
theorem appendSeq8 (k : Bool) (M d n₀ : Nat) (fv : Value) (xs : List Int) (w : World) (Z : Nat → Prop) (hZ : ∀ b, Z b → ∃ o : Obj, w.heap[b]? = some o ∧ o.isCells = true) (hm : MapZ (stepS k) Z M w) (hit : IterOf k M d Z w fv xs) (hn : n₀ ≤ w.heap.size) (hnM : n₀ ≤ M) (hlen : xs.length ≤ 300000000) :
    Calls Try.prog 37 #[.slice none 0 0, fv] w fun e w' => ∃ x, e = .returned x ∧ Own .i64 3 w.heap.size w' x xs ∧ Below n₀ w w' := by
  obtain ⟨i0, hi0, hz0, hz1, hz2⟩ := info_parts Try.infoI64
  have bO := Boxed.new w 22 (.slice none 0 0)
  have hB0 : Below n₀ w (w.alloc (.cells #[.slice none 0 0] 22)) := (Below.refl _ w).alloc hn _
  have hiB : InvB w.heap.size 22 (w.alloc (.cells #[.slice none 0 0] 22)) := ⟨_, bO, fun r e => by cases e⟩
  have hfree : ∀ b, Z b → (w.alloc (.cells #[.slice none 0 0] 22)).heap[b]? = w.heap[b]? ∧ FreeOf w.heap.size 22 (w.alloc (.cells #[.slice none 0 0] 22)) b := fun b hb => by
    obtain ⟨o, ho, hc⟩ := hZ b hb
    have hlt := (Array.getElem?_eq_some_iff.1 ho).1
    have hs := Below.heap_alloc w (.cells #[.slice none 0 0] 22) b hlt
    refine ⟨hs, ⟨o, hs.trans ho, hc⟩, by omega, fun u hu => ?_⟩
    obtain rfl : u = .slice none 0 0 := by
      have := (show (w.alloc _).heap[w.heap.size]? = _ from hu).symm.trans bO
      simpa using this
    simp [Value.ownBlock]
  have hmem : MemB (stepS k) M w.heap.size n₀ 22 (w.alloc (.cells #[.slice none 0 0] 22)) := ⟨by simp; omega, hnM, hiB, hm.move (by simp) (Below.heap_alloc _ _ _ hm.lt) hfree⟩
  have hit1 := hit.move (by simp) hfree
  obtain ⟨gf, lb, St, hfv, heg, hgv, hst⟩ := iter_gives (eachGives k M w.heap.size n₀ d) hit1 hiB (fun _ h => h)
  subst hfv
  clear hit hit1 hfree hm hZ
  refine (callsIn_wide (n := 9)).1 ?_
  refine callsIn_of_wp_marks Try.func37 rfl trivial ?_ rfl
  simp only [Try.ntmps37, List.size_toArray, List.length_cons, List.length_nil, Nat.reduceAdd, Nat.reduceSub, Array.replicate_succ, Array.replicate_zero, List.push_toArray, List.append_toArray, List.nil_append, List.cons_append]
  gi_wp2
  obtain ⟨w0, hw0⟩ : ∃ w0, w.alloc (.cells #[.slice none 0 0] 22) = w0 := ⟨_, rfl⟩
  have hs0 : w0.heap.size = w.heap.size + 1 := by rw [← hw0]; simp
  rw [hw0] at bO hB0 hmem hst ⊢
  refine wpIn_rangeFunc_M rfl heg hgv hst hmem rfl (fun pre W => (∃ v, Boxed W w.heap.size 22 v ∧ W.ownsRow w.heap.size 3 1 v pre.length (pre.map (Value.int .i64)) ∧ True) ∧ Below n₀ w W)
    ((abidesM_cells (fun s X Y row hs hg hr => holdsRow_own w.heap.size w.heap.size 22 3 1 (fun pre : List Int => pre.length) (fun pre => pre.map (Value.int .i64)) (fun _ _ => True) s X Y row hs hg hr)).and (abidesM_below hn (by omega) hnM))
    ⟨⟨_, bO, World.ownsRow_nil _ _ _ _, trivial⟩, hB0⟩
    (fun x => { tmps := #[.slice none 0 0, .func (.func gf) #[] lb, .pointer (some ⟨w.heap.size, 0, none⟩), undef, .slice none 0 0, .int .i64 x, .func (.func gf) #[] lb, .int .i64 x, undef, undef, undef, undef, undef], defers := [] }) ?assign ?body ?done
  case assign =>
    intro l x W K hK
    gi_wp2
    exact hK
  case body =>
    rintro l pre x W ⟨⟨v, hv, hrow, -⟩, hB⟩ hM hlt
    have hc := hv.cell
    have hsz : w.heap.size ≤ W.heap.size := Nat.le_of_lt hv.lt
    gi_wp2_with (gi_at_builtin; refine wpListIn_appMoves _ rfl _ _ 22 rfl w.heap.size 3 i0 (.int .i64 0) 1 8 Try.underlying22 hi0 hz0 hz1 hz2 rfl (by decide) _ _ _ rfl (hrow.alloc _) ⟨W.heap.size, 0, none⟩ 1 1 [.int .i64 x] rfl rfl (cell_one_new _ _ _) (by simp [Value.oneCell']) (by unfold maxLen; omega) (by omega) (by simp; omega) ?_; intro v' w1 hown' hgrow _ hmv; obtain ⟨g', cap', rfl⟩ := ownsRow_succ hown'; obtain ⟨hv1, hv2, hr2, hk2, hb2⟩ := hv.appended (by decide) hrow hsz (Nat.le_refl _) hown' hgrow; have hc1 := hv1.cell; have hf1 := hv1.frozen)
    have hK1 : KeepRow n₀ w.heap.size 22 W (W.alloc (.cells #[.int .i64 x] 3)) := KeepRow.of_below (by (repeat (first | exact Below.refl _ _ | exact below_drewN _ | refine Below.drew ?_ | refine Below.alloc ?_ (by simp) _ | refine Below.setCell ?_ (by simp) _ | refine below_drewN' ?_ _))) (by omega)
    have hK2 := keepRow_appended (n₀ := n₀) (by decide) (hv.alloc (.cells #[.int .i64 x] 3)) hn hn (by simp; omega) (show Own .i64 3 w.heap.size (W.alloc (.cells #[.int .i64 x] 3)) v pre from hrow.alloc _) (show Own .i64 3 w.heap.size w1 _ (pre ++ [x]) from by unfold Own; rw [List.length_append, List.map_append]; exact hown') hgrow hmv
    exact ⟨⟨hK1.trans hK2.1, hk2⟩, ⟨_, hv2, by rw [List.length_append, List.map_append]; exact hr2, trivial⟩, hB.trans (hb2.mono hn)⟩
  case done =>
    rintro D W hD ⟨⟨v, hv, hrow, -⟩, hB⟩ hM hK
    have hc := hv.cell
    gi_wp2
    refine ⟨by simp, .inl ⟨_, _, rfl, run_takeDeferred hK, ?_⟩⟩
    exact ⟨_, results_tmp rfl _ _ _, v, rfl, ownsRow_putObj hrow _ hK rfl, hB.grown (grownBy_putObj' W D _) (by have := hv.lt; omega) (fun r e => by cases e; omega)⟩
theorem collect8 (k : Bool) (M d n₀ : Nat) (fv : Value) (xs : List Int) (w : World) (Z : Nat → Prop) (hZ : ∀ b, Z b → ∃ o : Obj, w.heap[b]? = some o ∧ o.isCells = true) (hm : MapZ (stepS k) Z M w) (hit : IterOf k M d Z w fv xs) (hn : n₀ ≤ w.heap.size) (hnM : n₀ ≤ M) (hlen : xs.length ≤ 300000000) :
    Calls Try.prog 23 #[fv] w fun e w' => ∃ x, e = .returned x ∧ Own .i64 3 w.heap.size w' x xs ∧ Below n₀ w w' := by
  have HA := hid (appendSeq8 k M d n₀ fv xs w Z hZ hm hit hn hnM hlen)
  clear hm hit hZ
  go_enter Try.func23, Try.ntmps23
  go_wp2_with (go_at_call 37; refine HA.out.mono ?_; rintro e w1 ⟨v1, rfl, ho1, hb1⟩; have HO1 := hid ho1; have HB1 := hid hb1; clear ho1 hb1)
  go_ret
  exact ⟨_, rfl, HO1.out, HB1.out⟩
end Go.Proofs.Ytjiheplifmakpaa

/-! LawTwice8 -/
namespace Go.Proofs.Ytjiheplifmakpaa
open Go.RowKit

set_option maxHeartbeats 4000000 in
theorem walkTwice8 (HO : DOneOk) (HA : DAllOk) (v : Value) (s : List Int) (w : World) (h : Sl .i64 w v s) (hi : s.all inI = true) :
    Calls Try.prog 6 #[v] w fun e w' => e = .returned (.bool true) ∧ Below w.heap.size w w' := by
  have HS := hid h
  have ml := h.len
  obtain ⟨a, c, hv⟩ := h.form
  obtain ⟨n, hn⟩ : ∃ n, n = s.length := ⟨_, rfl⟩
  rw [← hn] at hv ml
  subst hv
  have HN := hid hn
  have HI := hid hi
  have HW := hid (fun w => lawWakes8 HO HA w)
  clear hn h hi
  by_cases hl : n ≤ 300
  · have H1 := hid (fun w h => HA false (.slice a n c) s w h HI.out (by have := HN.out; omega))
    have H2 := hid (fun v w h => HA true v (allS false s) w h (allS_inI HI.out) (allS_small (by have := HN.out; omega)))
    rw [allS_twice HI.out] at H2
    have H3 := hid (fun w h => HA true (.slice a n c) s w h HI.out (by have := HN.out; omega))
    generalize allS true s = A at H2 H3
    generalize allS false s = F at H1 H2
    clear HO HA
    go_enter Try.func6, Try.ntmps6
    go_wp2_with (first
      | (have _u := HB2; clear _u; go_at_call 12; refine (H3.out _ (HS.out.below HB2.out)).mono ?_; rintro e w3 ⟨v3, rfl, ho3, hb3⟩; have HO3 := hid ho3; have HO23 := hid (HO2.out.below hb3); have HB3 := hid (HB2.out.trans (hb3.mono HB2.out.size)); clear ho3 hb3)
      | (have _u := HB1; clear _u; go_at_call 12; refine (H2.out v1 _ HO1.out.sl).mono ?_; rintro e w2 ⟨v2, rfl, ho2, hb2⟩; have HO2 := hid ho2; have HB2 := hid (HB1.out.trans (hb2.mono HB1.out.size)); clear ho2 hb2)
      | (go_at_call 12; refine (H1.out _ HS.out).mono ?_; rintro e w1 ⟨v1, rfl, ho1, hb1⟩; have HO1 := hid ho1; have HB1 := hid hb1; clear ho1 hb1)
      | (go_at_call 9; refine (keepInts v2 v3 A A _ HO23.out.sl HO3.out.sl).mono ?_; rw [eqL_self]; rintro e w4 ⟨rfl, n4, hw4⟩; have HB4 := hid (show Below w.heap.size w w4 from by rw [hw4]; exact below_drewN' HB3.out n4); clear hw4)
      | (go_at_call 14; refine (HW.out _).mono ?_; rintro e w5 ⟨rfl, hb5⟩; have HB5 := hid (HB4.out.trans (hb5.mono HB4.out.size)); clear hb5))
    go_ret
    exact ⟨rfl, HB5.out⟩
  · have hl2 : 300 < n := by omega
    clear HO HA hl
    go_enter Try.func6, Try.ntmps6
    go_wp2
    go_ret
    exact ⟨rfl, Below.refl _ _⟩
end Go.Proofs.Ytjiheplifmakpaa

/-! LawExact8 -/
namespace Go.Proofs.Ytjiheplifmakpaa
open Go.RowKit

set_option maxHeartbeats 4000000 in
theorem walkExact8 (HO : DOneOk) (HA : DAllOk) (c : Int) (v : Value) (s : List Int) (k : Bool) (w : World) (hc : inI c = true) (h : Sl .i64 w v s) (hi : s.all inI = true) :
    Calls Try.prog 3 #[.int .i64 c, v, .bool k] w fun e w' => e = .returned (.bool true) ∧ Below w.heap.size w w' := by
  have HS := hid h
  have ml := h.len
  obtain ⟨a, cc, hv⟩ := h.form
  obtain ⟨n, hn⟩ : ∃ n, n = s.length := ⟨_, rfl⟩
  rw [← hn] at hv ml
  subst hv
  have HN := hid hn
  have HW := hid (fun w => lawWakes8 HO HA w)
  clear hn h
  by_cases hl : n ≤ 300
  · have H1 := hid (fun w => HO k c w hc)
    have H2 := hid (fun B w h => refOne8 k B c w h hc)
    have H3 := hid (fun v w h => HA k v s w h hi (by have := HN.out; omega))
    have H4 := hid (fun B w ht h => refEach8 k B (.slice a n cc) s w ht h hi (by have := HN.out; omega))
    have H5 := hid (fun w h => keepTwinInts (.slice a n cc) s w h (by have := HN.out; omega))
    generalize oneS k c = O at H1 H2
    generalize allS k s = A at H3 H4
    clear HO HA hc hi
    go_enter Try.func3, Try.ntmps3
    go_wp2_with (first
      | (have _u := HB8; clear _u; go_at_call 9; refine (keepInts v2 (.slice a n cc) s s _ (HO2.out.sl.below HP8.out) (HS.out.below HB8.out)).mono ?_; rw [eqL_self]; rintro e w9 ⟨rfl, n9, hw9⟩; have HB9 := hid (show Below w.heap.size w w9 from by rw [hw9]; exact below_drewN' HB8.out n9); clear hw9)
      | (have _u := HB7; clear _u; go_at_call 9; refine (keepInts v6 v7 A A _ HO67.out.sl HO7.out.sl).mono ?_; rw [eqL_self]; rintro e w8 ⟨rfl, n8, hw8⟩; have HB8 := hid (show Below w.heap.size w w8 from by rw [hw8]; exact below_drewN' HB7.out n8); have HP8 := hid (show Below w2.heap.size w2 w8 from by rw [hw8]; exact below_drewN' HP7.out n8); clear hw8)
      | (go_at_call 13; refine (H4.out B _ (HT.out.below HQ6.out) (HS.out.below HB6.out)).mono ?_; rintro e w7 ⟨v7, rfl, ho7, hb7⟩; have HO7 := hid ho7; have HO67 := hid (HO6.out.below hb7); have HB7 := hid (HB6.out.trans (hb7.mono HB6.out.size)); have HP7 := hid (HP6.out.trans (hb7.mono HP6.out.size)); clear ho7 hb7)
      | (go_at_call 12; refine (H3.out v2 _ (HO2.out.sl.below HP5.out)).mono ?_; rintro e w6 ⟨v6, rfl, ho6, hb6⟩; have HO6 := hid ho6; have HB6 := hid (HB5.out.trans (hb6.mono HB5.out.size)); have HP6 := hid (HP5.out.trans (hb6.mono HP5.out.size)); have HQ6 := hid (HQ2.out.trans (HP6.out.mono HQ2.out.size)); clear ho6 hb6)
      | (go_at_call 9; refine (keepInts v3 v4 O O _ HO34.out HO4.out).mono ?_; rw [eqL_self]; rintro e w5 ⟨rfl, n5, hw5⟩; have HB5 := hid (show Below w.heap.size w w5 from by rw [hw5]; exact below_drewN' HB4.out n5); have HP5 := hid (show Below w2.heap.size w2 w5 from by rw [hw5]; exact below_drewN' HP4.out n5); clear hw5)
      | (go_at_call 11; refine (H2.out B _ (HT.out.below HQ3.out)).mono ?_; rintro e w4 ⟨v4, rfl, ho4, hb4⟩; have HO4 := hid ho4; have HO34 := hid (HO3.out.below hb4); have HB4 := hid (HB3.out.trans (hb4.mono HB3.out.size)); have HP4 := hid (HP3.out.trans (hb4.mono HP3.out.size)); clear ho4 hb4)
      | (go_at_call 10; refine (H1.out _).mono ?_; rintro e w3 ⟨v3, rfl, ho3, hb3⟩; have HO3 := hid ho3; have HB3 := hid (HB2.out.trans (hb3.mono HB2.out.size)); have HP3 := hid hb3; have HQ3 := hid (HQ2.out.trans (hb3.mono HQ2.out.size)); clear ho3 hb3)
      | (go_at_call 8; refine (H5.out _ (HS.out.below HB1.out)).mono ?_; rintro e w2 ⟨v2, rfl, ho2, hb2⟩; have HO2 := hid ho2; have HB2 := hid (HB1.out.trans (hb2.mono HB1.out.size)); have HQ2 := hid hb2; clear ho2 hb2)
      | (go_at_call 7; refine (refAll6 _).mono ?_; rintro e w1 ⟨B, rfl, ht1, hb1⟩; have HT := hid ht1; have HB1 := hid hb1; clear ht1 hb1)
      | (go_at_call 14; refine (HW.out _).mono ?_; rintro e w10 ⟨rfl, hb10⟩; have HB10 := hid (HB9.out.trans (hb10.mono HB9.out.size)); clear hb10))
    go_ret
    exact ⟨rfl, HB10.out⟩
  · have hl2 : 300 < n := by omega
    clear HO HA hl
    go_enter Try.func3, Try.ntmps3
    go_wp2
    go_ret
    exact ⟨rfl, Below.refl _ _⟩
end Go.Proofs.Ytjiheplifmakpaa

/-! LawStays8 -/
namespace Go.Proofs.Ytjiheplifmakpaa
open Go.RowKit

theorem plain_canon {k : Bool} {x : Int} (h : PlainS k x) : canonS x = [] := Classical.byContradiction fun hc => hc (by rw [← step_canon (k := k) hc]; exact h.2)
theorem plain_compat {x : Int} (h : PlainS true x) : mapS tabCompat x = [] := by
  have hc := plain_canon h
  have := h.2
  unfold stepS at this
  rw [hc] at this
  exact this
theorem i64_of {x : Int} (h : inI x = true) : I64n x := by
  unfold inI at h
  have h2 := of_decide_eq_true h
  exact h2

set_option maxHeartbeats 8000000 in
theorem walkStays8 (HO : DOneOk) (HA : DAllOk) (HP : SplitOk) (v : Value) (s : List Int) (k : Bool) (w : World) (h : Sl .i64 w v s) (hi : s.all inI = true) :
    Calls Try.prog 4 #[v, .bool k] w fun e w' => e = .returned (.bool true) ∧ Below w.heap.size w w' := by
  have HS := hid h
  have ml := h.len
  obtain ⟨a, cc, hv⟩ := h.form
  obtain ⟨n, hn⟩ : ∃ n, n = s.length := ⟨_, rfl⟩
  rw [← hn] at hv ml
  subst hv
  have HN := hid hn
  have HW := hid (fun w => lawWakes8 HO HA w)
  clear hn h
  by_cases hl : n ≤ 300
  · have H1 := hid (fun w h => HA k (.slice a n cc) s w h hi (by have := HN.out; omega))
    have H2 := hid (fun v w h => HA k v (allS k s) w h (allS_inI hi) (allS_small (by have := HN.out; omega)))
    rw [allS_stays hi] at H2
    have HPL := hid (allS_mem (k := k) hi)
    have HPI := hid (List.all_eq_true.1 (allS_inI (k := k) hi))
    have HLE := hid (show n ≤ (allS k s).length from by have := allS_len k s; have := HN.out; omega)
    have HLS := hid (show (allS k s).length ≤ 1000000 from allS_small (by have := HN.out; omega))
    generalize allS k s = A at H1 H2 HPL HPI HLE HLS
    obtain ⟨m, hm⟩ : ∃ m, m = A.length := ⟨_, rfl⟩
    rw [← hm] at HLE HLS
    have HM := hid hm
    have hnm := HLE.out
    have hm6 := HLS.out
    clear HO HA hi hm
    cases k with
    | false =>
      go_enter Try.func4, Try.ntmps4
      go_wp2_with (go_at_call 12; refine (H1.out _ HS.out).mono ?_; rintro e w1 ⟨v1, rfl, ho1, hb1⟩; obtain ⟨av, cv, hv1⟩ := ho1.sl.form; rw [← HM.out] at hv1; subst hv1; have HO1 := hid ho1; have HB1 := hid hb1; clear ho1 hb1)
      go_loopw [6] (fun iv wr => ∃ i : Nat, i ≤ m ∧ iv = .int .i64 i ∧ Hid (Below w.heap.size w wr) ∧ Hid (Below w1.heap.size w1 wr)) (fun iv _ => m - (intOf iv).toNat)
      case atStart => exact ⟨0, by omega, rfl, HB1.out, Below.refl _ _⟩
      case round =>
        obtain ⟨i, hi, rfl, hbel, hb1⟩ := hrel
        by_cases hlt : i < m
        · obtain ⟨a9, c9, hq, hq1, hq2, hq3⟩ := HO1.out.sl
          injection hq with hq4 hq5 hq6
          subst hq4 hq6
          clear hq5 hq2
          rcases hq3 with hq3 | ⟨b1, o1, rfl, hq7, hq8⟩
          · have := HM.out
            omega
          have hil : i < A.length := by have := HM.out; omega
          have d1 := (hb1.out.cell (p := ⟨b1, o1 + i, none⟩) (hq7 (by omega))).trans (hq8 i hil)
          have hx : A.getD i 0 ∈ A := by
            rw [List.getD_eq_getElem?_getD, List.getElem?_eq_getElem hil]
            exact List.getElem_mem hil
          have hpl := HPL.out _ hx
          have hpi := HPI.out _ hx
          clear hq1 hq7 hq8 hil hx
          generalize A.getD i 0 = x at d1 hpl hpi
          have HC1 := hid (fun w => ucdCanon x w)
          rw [plain_canon hpl] at HC1
          have HC5 := hid (fun w => HP x w (i64_of hpi))
          rw [hpl.1] at HC5
          clear hpl hpi
          go_wp2_with (first
            | (go_at_call 15; refine (HC1.out _).mono ?_; rintro e w3 ⟨v3, rfl, ho3, hb3⟩; obtain ⟨a3, c3, rfl⟩ := ho3.form; have HB3 := hid (hbel.out.trans (hb3.mono hbel.out.size)); have HC3 := hid hb3; clear ho3 hb3; have x3 := (HC3.out.cell (p := ⟨b1, o1 + i, none⟩) (World.block_lt_of_cell? wr _ d1)).trans d1)
            | (go_at_call 17; refine (HC5.out _).mono ?_; rintro e w5 ⟨v5, rfl, ho5, hb5⟩; obtain ⟨a5, c5, rfl⟩ := ho5.form; have HB5 := hid (HB3.out.trans (hb5.mono HB3.out.size)); have HBX := hid (HC3.out.trans (hb5.mono HC3.out.size)); clear ho5 hb5))
          go_roundw
          case rel => exact ⟨i + 1, by omega, by go_num, HB5.out, hb1.out.trans (HBX.out.mono hb1.out.size)⟩
          case measure => simp [intOf]; omega
        · obtain rfl : i = m := by omega
          go_wp2_with (first
            | (go_at_call 12; refine (H2.out _ _ (HO1.out.sl.below hb1.out)).mono ?_; rintro e w6 ⟨v6, rfl, ho6, hb6⟩; have HO6 := hid ho6; have HO16 := hid ((HO1.out.below hb1.out).below hb6); have HB6 := hid (hbel.out.trans (hb6.mono hbel.out.size)); clear ho6 hb6)
            | (go_at_call 9; refine (keepInts v6 _ A A _ HO6.out.sl HO16.out.sl).mono ?_; rw [eqL_self]; rintro e w7 ⟨rfl, n7, hw7⟩; have HB7 := hid (show Below w.heap.size w w7 from by rw [hw7]; exact below_drewN' HB6.out n7); clear hw7)
            | (go_at_call 14; refine (HW.out _).mono ?_; rintro e w8 ⟨rfl, hb8⟩; have HB8 := hid (HB7.out.trans (hb8.mono HB7.out.size)); clear hb8))
          go_ret
          exact ⟨rfl, HB8.out⟩
    | true =>
      go_enter Try.func4, Try.ntmps4
      go_wp2_with (go_at_call 12; refine (H1.out _ HS.out).mono ?_; rintro e w1 ⟨v1, rfl, ho1, hb1⟩; obtain ⟨av, cv, hv1⟩ := ho1.sl.form; rw [← HM.out] at hv1; subst hv1; have HO1 := hid ho1; have HB1 := hid hb1; clear ho1 hb1)
      go_loopw [6] (fun iv wr => ∃ i : Nat, i ≤ m ∧ iv = .int .i64 i ∧ Hid (Below w.heap.size w wr) ∧ Hid (Below w1.heap.size w1 wr)) (fun iv _ => m - (intOf iv).toNat)
      case atStart => exact ⟨0, by omega, rfl, HB1.out, Below.refl _ _⟩
      case round =>
        obtain ⟨i, hi, rfl, hbel, hb1⟩ := hrel
        by_cases hlt : i < m
        · obtain ⟨a9, c9, hq, hq1, hq2, hq3⟩ := HO1.out.sl
          injection hq with hq4 hq5 hq6
          subst hq4 hq6
          clear hq5 hq2
          rcases hq3 with hq3 | ⟨b1, o1, rfl, hq7, hq8⟩
          · have := HM.out
            omega
          have hil : i < A.length := by have := HM.out; omega
          have d1 := (hb1.out.cell (p := ⟨b1, o1 + i, none⟩) (hq7 (by omega))).trans (hq8 i hil)
          have hx : A.getD i 0 ∈ A := by
            rw [List.getD_eq_getElem?_getD, List.getElem?_eq_getElem hil]
            exact List.getElem_mem hil
          have hpl := HPL.out _ hx
          have hpi := HPI.out _ hx
          clear hq1 hq7 hq8 hil hx
          generalize A.getD i 0 = x at d1 hpl hpi
          have HC1 := hid (fun w => ucdCanon x w)
          rw [plain_canon hpl] at HC1
          have HC5 := hid (fun w => HP x w (i64_of hpi))
          rw [hpl.1] at HC5
          have HC2 := hid (fun w => ucdCompat x w)
          rw [plain_compat hpl] at HC2
          clear hpl hpi
          go_wp2_with (first
            | (go_at_call 15; refine (HC1.out _).mono ?_; rintro e w3 ⟨v3, rfl, ho3, hb3⟩; obtain ⟨a3, c3, rfl⟩ := ho3.form; have HB3 := hid (hbel.out.trans (hb3.mono hbel.out.size)); have HC3 := hid hb3; clear ho3 hb3; have x3 := (HC3.out.cell (p := ⟨b1, o1 + i, none⟩) (World.block_lt_of_cell? wr _ d1)).trans d1)
            | (go_at_call 16; refine (HC2.out _).mono ?_; rintro e w4 ⟨v4, rfl, ho4, hb4⟩; obtain ⟨a4, c4, rfl⟩ := ho4.form; have HB4 := hid (HB3.out.trans (hb4.mono HB3.out.size)); have HC4 := hid hb4; clear ho4 hb4; have x4 := (HC4.out.cell (p := ⟨b1, o1 + i, none⟩) (World.block_lt_of_cell? w3 _ x3)).trans x3)
            | (go_at_call 17; refine (HC5.out _).mono ?_; rintro e w5 ⟨v5, rfl, ho5, hb5⟩; obtain ⟨a5, c5, rfl⟩ := ho5.form; have HB5 := hid (HB4.out.trans (hb5.mono HB4.out.size)); have HBX := hid (HC3.out.trans ((HC4.out.mono HC3.out.size).trans (hb5.mono (Nat.le_trans HC3.out.size HC4.out.size)))); clear ho5 hb5))
          go_roundw
          case rel => exact ⟨i + 1, by omega, by go_num, HB5.out, hb1.out.trans (HBX.out.mono hb1.out.size)⟩
          case measure => simp [intOf]; omega
        · obtain rfl : i = m := by omega
          go_wp2_with (first
            | (go_at_call 12; refine (H2.out _ _ (HO1.out.sl.below hb1.out)).mono ?_; rintro e w6 ⟨v6, rfl, ho6, hb6⟩; have HO6 := hid ho6; have HO16 := hid ((HO1.out.below hb1.out).below hb6); have HB6 := hid (hbel.out.trans (hb6.mono hbel.out.size)); clear ho6 hb6)
            | (go_at_call 9; refine (keepInts v6 _ A A _ HO6.out.sl HO16.out.sl).mono ?_; rw [eqL_self]; rintro e w7 ⟨rfl, n7, hw7⟩; have HB7 := hid (show Below w.heap.size w w7 from by rw [hw7]; exact below_drewN' HB6.out n7); clear hw7)
            | (go_at_call 14; refine (HW.out _).mono ?_; rintro e w8 ⟨rfl, hb8⟩; have HB8 := hid (HB7.out.trans (hb8.mono HB7.out.size)); clear hb8))
          go_ret
          exact ⟨rfl, HB8.out⟩
  · have hl2 : 300 < n := by omega
    clear HO HA HP hl
    go_enter Try.func4, Try.ntmps4
    go_wp2
    go_ret
    exact ⟨rfl, Below.refl _ _⟩
end Go.Proofs.Ytjiheplifmakpaa
