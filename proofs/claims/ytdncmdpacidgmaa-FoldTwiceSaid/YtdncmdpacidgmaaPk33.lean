/- Several texts in one: Dec8f, Dec8g. -/
import Derived.Test.YtdncmdpacidgmaaPk30
import Derived.Test.YtdncmdpacidgmaaPk22
import Derived.Test.YtdncmdpacidgmaaPk32
/-! Dec8f -/
namespace Go.Proofs.Ytdncmdpacidgmaa
open Go.RowKit Go.Shelf
attribute [local go_sem] Oper.semAt_some

set_option maxRecDepth 100000 in
set_option maxHeartbeats 4000000 in
theorem appendSeq8 (k : Bool) (M d n₀ : Nat) (fv : Value) (xs : List Int) (w : World) (Z : Nat → Prop) (hZ : ∀ b, Z b → ∃ o : Obj, w.heap[b]? = some o ∧ o.isCells = true) (hm : MapZ (stepS k) Z M w) (hit : IterOf k M d Z w fv xs) (hn : n₀ ≤ w.heap.size) (hnM : n₀ ≤ M) (hlen : xs.length ≤ 300000000) :
    Calls Try.prog 35 #[.slice none 0 0, fv] w fun e w' => ∃ x, e = .returned x ∧ Own .i64 3 w.heap.size w' x xs ∧ Below n₀ w w' := by
  obtain ⟨i0, hi0, hz0, hz1, hz2⟩ := info_parts Try.infoI64
  have bO := Boxed.new w 22 (.slice none 0 0)
  have hB0 : Below n₀ w (w.alloc (.cells #[.slice none 0 0] 22)) := (Below.refl _ w).alloc hn _
  have hiB : InvB w.heap.size 22 (w.alloc (.cells #[.slice none 0 0] 22)) := ⟨_, bO, fun r e => by cases e⟩
  have hfree : ∀ b, Z b → (w.alloc (.cells #[.slice none 0 0] 22)).heap[b]? = w.heap[b]? ∧ FreeOf w.heap.size 22 (w.alloc (.cells #[.slice none 0 0] 22)) b := fun b hb => by
    obtain ⟨o, ho, hc⟩ := hZ b hb
    have hlt := (Array.getElem?_eq_some_iff.1 ho).1
    have hs := Below.heap_alloc w (.cells #[.slice none 0 0] 22) b hlt
    refine ⟨hs, ⟨o, hs.trans ho, hc⟩, by omega, fun u hu => ?_⟩
    obtain rfl : u = .slice none 0 0 := by
      have := (show (w.alloc _).heap[w.heap.size]? = _ from hu).symm.trans bO
      simpa using this
    simp [Value.ownBlock]
  have hmem : MemB (stepS k) M w.heap.size n₀ 22 (w.alloc (.cells #[.slice none 0 0] 22)) := ⟨by simp; omega, hnM, hiB, hm.move (by simp) (Below.heap_alloc _ _ _ hm.lt) hfree⟩
  have hit1 := hit.move (by simp) hfree
  obtain ⟨gf, lb, St, hfv, heg, hgv, hst⟩ := iter_gives (eachGives k M w.heap.size n₀ d) hit1 hiB (fun _ h => h)
  subst hfv
  clear hit hit1 hfree hm hZ
  refine (callsIn_wide (n := 9)).1 ?_
  refine callsIn_of_wp_marks Try.func35 rfl trivial ?_ rfl
  simp only [Try.ntmps35, List.size_toArray, List.length_cons, List.length_nil, Nat.reduceAdd, Nat.reduceSub, Array.replicate_succ, Array.replicate_zero, List.push_toArray, List.append_toArray, List.nil_append, List.cons_append]
  gi_wp2
  obtain ⟨w0, hw0⟩ : ∃ w0, w.alloc (.cells #[.slice none 0 0] 22) = w0 := ⟨_, rfl⟩
  have hs0 : w0.heap.size = w.heap.size + 1 := by rw [← hw0]; simp
  rw [hw0] at bO hB0 hmem hst ⊢
  refine wpIn_rangeFunc_M rfl heg hgv hst hmem rfl (fun pre W => (∃ v, Boxed W w.heap.size 22 v ∧ W.ownsRow w.heap.size 3 1 v pre.length (pre.map (Value.int .i64)) ∧ True) ∧ Below n₀ w W)
    ((abidesM_cells (fun s X Y row hs hg hr => holdsRow_own w.heap.size w.heap.size 22 3 1 (fun pre : List Int => pre.length) (fun pre => pre.map (Value.int .i64)) (fun _ _ => True) s X Y row hs hg hr)).and (abidesM_below hn (by omega) hnM))
    ⟨⟨_, bO, World.ownsRow_nil _ _ _ _, trivial⟩, hB0⟩
    (fun x => { tmps := #[.slice none 0 0, .func (.func gf) #[] lb, .pointer (some ⟨w.heap.size, 0, none⟩), undef, .slice none 0 0, .int .i64 x, .func (.func gf) #[] lb, .int .i64 x, undef, undef, undef, undef, undef], defers := [] }) ?assign ?body ?done
  case assign =>
    intro l x W K hK
    gi_wp2
    exact hK
  case body =>
    rintro l pre x W ⟨⟨v, hv, hrow, -⟩, hB⟩ hM hlt
    have hc := hv.cell
    have hsz : w.heap.size ≤ W.heap.size := Nat.le_of_lt hv.lt
    gi_wp2_with (gi_at_builtin; refine wpListIn_appMoves _ rfl _ _ 22 rfl w.heap.size 3 i0 (.int .i64 0) 1 8 Try.underlying22 hi0 hz0 hz1 hz2 rfl (by decide) _ _ _ rfl (hrow.alloc _) ⟨W.heap.size, 0, none⟩ 1 1 [.int .i64 x] rfl rfl (cell_one_new _ _ _) (by simp [Value.oneCell']) (by unfold maxLen; omega) (by omega) (by simp; omega) ?_; intro v' w1 hown' hgrow _ hmv; obtain ⟨g', cap', rfl⟩ := ownsRow_succ hown'; obtain ⟨hv1, hv2, hr2, hk2, hb2⟩ := hv.appended (by decide) hrow hsz (Nat.le_refl _) hown' hgrow; have hc1 := hv1.cell; have hf1 := hv1.frozen)
    have hK1 : KeepRow n₀ w.heap.size 22 W (W.alloc (.cells #[.int .i64 x] 3)) := KeepRow.of_below (by (repeat (first | exact Below.refl _ _ | exact below_drewN _ | refine Below.drew ?_ | refine Below.alloc ?_ (by simp) _ | refine Below.setCell ?_ (by simp) _ | refine below_drewN' ?_ _))) (by omega)
    have hK2 := keepRow_appended (n₀ := n₀) (by decide) (hv.alloc (.cells #[.int .i64 x] 3)) hn hn (by simp; omega) (show Own .i64 3 w.heap.size (W.alloc (.cells #[.int .i64 x] 3)) v pre from hrow.alloc _) (show Own .i64 3 w.heap.size w1 _ (pre ++ [x]) from by unfold Own; rw [List.length_append, List.map_append]; exact hown') hgrow hmv
    exact ⟨⟨hK1.trans hK2.1, hk2⟩, ⟨_, hv2, by rw [List.length_append, List.map_append]; exact hr2, trivial⟩, hB.trans (hb2.mono hn)⟩
  case done =>
    rintro D W hD ⟨⟨v, hv, hrow, -⟩, hB⟩ hM hK
    have hc := hv.cell
    gi_wp2
    refine ⟨by simp, .inl ⟨_, _, rfl, run_takeDeferred hK, ?_⟩⟩
    exact ⟨_, results_tmp rfl _ _ _, v, rfl, ownsRow_putObj hrow _ hK rfl, hB.grown (grownBy_putObj' W D _) (by have := hv.lt; omega) (fun r e => by cases e; omega)⟩
theorem collect8 (k : Bool) (M d n₀ : Nat) (fv : Value) (xs : List Int) (w : World) (Z : Nat → Prop) (hZ : ∀ b, Z b → ∃ o : Obj, w.heap[b]? = some o ∧ o.isCells = true) (hm : MapZ (stepS k) Z M w) (hit : IterOf k M d Z w fv xs) (hn : n₀ ≤ w.heap.size) (hnM : n₀ ≤ M) (hlen : xs.length ≤ 300000000) :
    Calls Try.prog 24 #[fv] w fun e w' => ∃ x, e = .returned x ∧ Own .i64 3 w.heap.size w' x xs ∧ Below n₀ w w' := by
  have HA := hid (appendSeq8 k M d n₀ fv xs w Z hZ hm hit hn hnM hlen)
  clear hm hit hZ
  go_enter Try.func24, Try.ntmps24
  go_wp2_with (go_at_call 35; refine HA.out.mono ?_; rintro e w1 ⟨v1, rfl, ho1, hb1⟩; have HO1 := hid ho1; have HB1 := hid hb1; clear ho1 hb1)
  go_ret
  exact ⟨_, rfl, HO1.out, HB1.out⟩
end Go.Proofs.Ytdncmdpacidgmaa

/-! Dec8g -/
namespace Go.Proofs.Ytdncmdpacidgmaa
open Go.RowKit Go.Shelf

theorem mapZ_none {f : Int → List Int} {Z : Nat → Prop} {M : Nat} {W : World} (h : W.heap[M]? = some (.map #[] 0)) : MapZ f Z M W := ⟨_, _, h, fun e he => by simp at he⟩
theorem Sl.slZ {w : World} {v : Value} {xs : List Int} (h : Sl .i64 w v xs) : SlZ (fun b => ∃ o : Obj, w.heap[b]? = some o ∧ o.isCells = true) w v xs := by
  refine ⟨h, fun a n c e h0 => ?_⟩
  obtain ⟨a1, cap, hv, hl, hm, hh⟩ := h
  rw [e] at hv
  injection hv with e1 e2 e3
  rcases hh with hh | ⟨b, off, ha, hb, hc⟩
  · omega
  · rw [ha] at e1
    injection e1 with e1
    subst e1
    exact cells_of_cell (hc 0 h0)
theorem below_turned {M : Nat} {w w1 w2 w3 : World} (h1 : Below w.heap.size w w1) (hM : w.heap.size ≤ M) (hg : w1.grownBy w2 (some M)) (h3 : Below w.heap.size w2 w3) : Below w.heap.size w w3 :=
  (h1.grown hg h1.size (fun r e => by cases e; exact hM)).trans h3

set_option maxHeartbeats 1000000 in
theorem all8 (k : Bool) (v : Value) (s : List Int) (w : World) (hs : Sl .i64 w v s) (hi : s.all inI = true) (hl : s.length ≤ 1000000) : Calls Try.prog 46 #[v, .bool k] w fun e w' => ∃ x, e = .returned x ∧ Own .i64 3 w.heap.size w' x (allS k s) ∧ Below w.heap.size w w' := by
  have hlen : (allS k s).length ≤ s.length * (3 ^ 4 * 3) := each_len k 4 s
  have HD := hid (fun x (hx : x ∈ s) => deep_five (k := k) (List.all_eq_true.1 hi x hx))
  have HS := hid hs
  obtain ⟨a, cap, hv⟩ := hs.form
  subst hv
  clear hs
  go_enter Try.func46, Try.ntmps46
  go_wp2_with (first
    | (go_at_call 62; refine (newDec8 k _).mono ?_; rintro e w1 ⟨M, rfl, hM, hm1, hb1⟩; have HM1 := hid hm1; have HB1 := hid hb1; have HS1 := hid (Sl.slZ (HS.out.below hb1)); clear hm1 hb1)
    | (go_at_call 63; refine (each8 k M _ s w1 (fun b => ∃ o : Obj, w1.heap[b]? = some o ∧ o.isCells = true) (fun _ h => h) HS1.out).mono ?_; rintro e w2 ⟨rfl, hi2, hb2⟩; have HB2 := hid hb2; have HI2 := hid hi2; clear hb2 hi2)
    | (go_at_call 24; refine (collect8 k M 5 w.heap.size _ (allS k s) w2 _ zn_cells (MapZ.below (fun _ h => h) (mapZ_none HM1.out) HB2.out) (.inr ⟨_, _, s, rfl, HI2.out, rfl, HD.out⟩) (Nat.le_trans HB1.out.size HB2.out.size) hM (by omega)).mono ?_; rintro e w3 ⟨v3, rfl, ho3, hb3⟩; have HO3 := hid ho3; have HB3 := hid hb3; clear ho3 hb3))
  go_ret
  exact ⟨_, rfl, HO3.out.mono (Nat.le_trans HB1.out.size HB2.out.size), below_turned HB1.out hM (grown_some M HB2.out) HB3.out⟩
theorem allDec : DAllOk := fun k v s w hs hi hl => all8 k v s w hs hi hl
end Go.Proofs.Ytdncmdpacidgmaa
