/- Several texts in one: Dec8a, Dec8b, Dec8c. -/
import Derived.Test.YtdncmdpacidgmaaPk22
import Derived.Test.YtdncmdpacidgmaaPk25
import Derived.Test.YtdncmdpacidgmaaPk26
import Derived.Test.YtdncmdpacidgmaaPk4
import Derived.Carry
/-! Dec8a -/
namespace Go.Proofs.Ytdncmdpacidgmaa
open Go.RowKit

theorem inI_I64 {c : Int} (h : inI c = true) : I64n c := by
  unfold inI at h
  rw [decide_eq_true_iff] at h
  exact h
/-- the decomposer as a value -/
def decV (k : Bool) (M : Nat) : Value := .agg #[.bool k, .map (some M)]
def decBox (k : Bool) (M : Nat) : Obj := .cells #[.bool k, .map (some M)] 103

theorem loadD {k : Bool} {M B : Nat} {w : World} (h : Box 103 [.bool k, .map (some M)] B w) : (loadVar 103 ⟨B, 0, none⟩).run Try.prog w = .ok (decV k M) w := by
  have k0 := h.cell 0
  have k1 := h.cell 1
  simp only [List.getElem?_cons_zero, List.getElem?_cons_succ] at k0 k1
  simp [go_sem, k0, k1, decV]
theorem newDec8 (k : Bool) (w : World) : Calls Try.prog 62 #[.bool k] w fun e w' => ∃ M, e = .returned (decV k M) ∧ w.heap.size ≤ M ∧ w'.heap[M]? = some (.map #[] 0) ∧ Below w.heap.size w w' := by
  go_enter Try.func62, Try.ntmps62
  go_wp2_with (fail)
  simp only [run_makeMap, Result.andThen]
  go_wp2
  refine bodyPost_ret (results_one rfl rfl (loadD (show Box 103 [.bool k, .map (some (w.heap.size + 1))] w.heap.size _ from (Box.made w 103 _).alloc _))) rfl ⟨w.heap.size + 1, rfl, by omega, ?_, by (repeat (first | exact Below.refl _ _ | exact below_drewN _ | refine Below.drew ?_ | refine Below.alloc ?_ (by simp) _ | refine Below.setCell ?_ (by simp) _ | refine below_drewN' ?_ _))⟩
  have := World.alloc_heap_new (w.alloc (.cells #[.bool k, .map (some (w.heap.size + 1))] 103)) (.map #[] 0)
  rwa [World.size_alloc] at this

set_option maxHeartbeats 1000000 in
theorem lookUp8 (k : Bool) (M : Nat) (c : Int) (w : World) : Calls Try.prog 85 #[decV k M, .int .i64 c] w fun e w' => ∃ x, e = .returned x ∧ Own .i64 3 w.heap.size w' x (stepS k c) ∧ Below w.heap.size w w' := by
  unfold decV
  have bD := Box.made w 103 [.bool k, .map (some M)]
  have HBD := hid bD
  clear bD
  by_cases hc : canonS c = []
  · have HCE := hid hc
    cases k with
    | true =>
      have HP := hid (show stepS true c = mapS tabCompat c by unfold stepS; rw [hc]; rfl)
      clear hc
      go_enter Try.func85, Try.ntmps85
      go_wp2_with (first
        | (go_at_call 87; refine (ucdCanonO c _).mono ?_; rintro e w2 ⟨v2, rfl, ho2, hb2⟩; have HB2 := hid hb2; rw [HCE.out] at ho2; obtain ⟨a2, c2, hv2⟩ := ho2.sl.form; subst hv2; simp only [List.length_nil]; have d0 := (HBD.out.below hb2 HBD.out.lt).cell 0; have d1 := (HBD.out.below hb2 HBD.out.lt).ice 0; simp only [List.getElem?_cons_zero] at d0; clear ho2 hb2)
        | (go_at_call 88; refine (ucdCompatO c _).mono ?_; rintro e w3 ⟨v3, rfl, ho3, hb3⟩; have HO3 := hid ho3; have HB3 := hid (HB2.out.trans (hb3.mono HB2.out.size)); clear ho3 hb3))
      go_ret
      exact ⟨_, rfl, by rw [HP.out]; exact HO3.out.mono (by have := HB2.out.size; simp at this; omega), ((Below.refl _ w).alloc (Nat.le_refl _) _).trans (HB3.out.mono (by simp))⟩
    | false =>
      have HP := hid (show stepS false c = canonS c by unfold stepS; rw [hc]; rfl)
      clear hc
      go_enter Try.func85, Try.ntmps85
      go_wp2_with (go_at_call 87; refine (ucdCanonO c _).mono ?_; rintro e w2 ⟨v2, rfl, ho2, hb2⟩; have HB2 := hid hb2; have HO2 := hid ho2; rw [HCE.out] at ho2; obtain ⟨a2, c2, hv2⟩ := ho2.sl.form; subst hv2; simp only [List.length_nil]; have d0 := (HBD.out.below hb2 HBD.out.lt).cell 0; have d1 := (HBD.out.below hb2 HBD.out.lt).ice 0; simp only [List.getElem?_cons_zero] at d0; clear ho2 hb2)
      go_ret
      exact ⟨_, rfl, by rw [HP.out]; exact HO2.out.mono (by simp), ((Below.refl _ w).alloc (Nat.le_refl _) _).trans (HB2.out.mono (by simp))⟩
  · have HP := hid (show stepS k c = canonS c from step_canon hc)
    obtain ⟨n, hn⟩ : ∃ n, n = (canonS c).length := ⟨_, rfl⟩
    have hn0 : 0 < n := by rw [hn]; exact List.length_pos_iff.2 hc
    have HN := hid hn
    clear hc hn
    go_enter Try.func85, Try.ntmps85
    go_wp2_with (go_at_call 87; refine (ucdCanonO c _).mono ?_; rintro e w2 ⟨v2, rfl, ho2, hb2⟩; have HB2 := hid hb2; have HO2 := hid ho2; obtain ⟨a2, c2, hv2⟩ := ho2.sl.form; rw [← HN.out] at hv2; subst hv2; clear ho2 hb2)
    go_ret
    exact ⟨_, rfl, by rw [HP.out]; exact HO2.out.mono (by simp), ((Below.refl _ w).alloc (Nat.le_refl _) _).trans (HB2.out.mono (by simp))⟩
/-- the Z, and what is new -/
def Zn (Z : Nat → Prop) (w w' : World) (b : Nat) : Prop := (∃ o : Obj, w'.heap[b]? = some o ∧ o.isCells = true) ∧ (Z b ∨ w.heap.size ≤ b)
theorem same_cells {w w' : World} {M : Nat} {Z : Nat → Prop} (hZ : ∀ b, Z b → ∃ o : Obj, w.heap[b]? = some o ∧ o.isCells = true) (hM : NoCells w (some M)) (hg : w.grownBy w' (some M)) {b : Nat} (hb : Z b) : w'.heap[b]? = w.heap[b]? ∧ Zn Z w w' b := by
  obtain ⟨o, ho, hc⟩ := hZ b hb
  have hs : w'.heap[b]? = w.heap[b]? := hg.block b (Array.getElem?_eq_some_iff.1 ho).1 (fun e => by
    obtain ⟨o', ho', hc'⟩ := hM b e.symm
    rw [ho] at ho'
    cases ho'
    rw [hc] at hc'
    cases hc')
  exact ⟨hs, ⟨o, hs.trans ho, hc⟩, .inl hb⟩
theorem grown_some {w w' : World} (M : Nat) (hb : Below w.heap.size w w') : w.grownBy w' (some M) := ⟨hb.os, hb.tape, hb.output, hb.size, fun k hk _ => hb.block k hk⟩
theorem mapZ_add {f : Int → List Int} {Z : Nat → Prop} {M e : Nat} {w w2 w' : World} {es es' : Array MapEntry} {clock clock' : Nat} {c : Int} {x : Value} (hZ : ∀ b, Z b → ∃ o : Obj, w.heap[b]? = some o ∧ o.isCells = true)
    (hm : w.heap[M]? = some (.map es clock)) (he : ∀ y ∈ es.toList, ∃ c, y.key = .int .i64 c ∧ inI c = true ∧ SlZ Z w y.val (f c)) (h12 : Below w.heap.size w w2) (ho : Own .i64 e w.heap.size w2 x (f c))
    (hg : w2.grownBy w' (some M)) (hM' : w'.heap[M]? = some (.map es' clock')) (hx : ∀ y ∈ es'.toList, y ∈ es.toList ∨ (y.key = .int .i64 c ∧ y.val = x)) (hi : inI c = true) :
    w.grownBy w' (some M) ∧ MapZ f (Zn Z w w') M w' ∧ SlZ (Zn Z w w') w' x (f c) := by
  have hml := (Array.getElem?_eq_some_iff.1 hm).1
  have hg' : w.grownBy w' (some M) := ⟨hg.os.trans h12.os, hg.tape.trans h12.tape, hg.output.trans h12.output, Nat.le_trans h12.size hg.size, fun k hk hne => (hg.block k (Nat.lt_of_lt_of_le hk h12.size) hne).trans (h12.block k hk)⟩
  have hnc : NoCells w (some M) := fun r e => by cases e; exact ⟨_, hm, rfl⟩
  have hxs : SlZ (Zn Z w w') w' x (f c) := ho.slZ.move hg.size (fun b hb => by
    obtain ⟨hb1, o, hb2, hb3⟩ := hb
    have hs : w'.heap[b]? = w2.heap[b]? := hg.block b (Array.getElem?_eq_some_iff.1 hb2).1 (fun e => by
      have e' : b = M := by simpa using e
      omega)
    exact ⟨hs, ⟨o, hs.trans hb2, hb3⟩, .inr hb1⟩)
  refine ⟨hg', ⟨es', clock', hM', fun y hy => ?_⟩, hxs⟩
  rcases hx y hy with hy | ⟨h1, h2⟩
  · obtain ⟨c', h1, h2, h3⟩ := he y hy
    exact ⟨c', h1, h2, h3.move hg'.size (fun b hb => same_cells hZ hnc hg' hb)⟩
  · exact ⟨c, h1, hi, by rw [h2]; exact hxs⟩

set_option maxHeartbeats 1000000 in
theorem parts8 (k : Bool) (M : Nat) (c : Int) (w : World) (Z : Nat → Prop) (hi : inI c = true) (hZ : ∀ b, Z b → ∃ o : Obj, w.heap[b]? = some o ∧ o.isCells = true) (hm : MapZ (stepS k) Z M w) :
    Calls Try.prog 83 #[decV k M, .int .i64 c] w fun e w' => ∃ x, e = .returned x ∧ w.grownBy w' (some M) ∧ MapZ (stepS k) (Zn Z w w') M w' ∧ SlZ (Zn Z w w') w' x (stepS k c) := by
  have hnc := hm.nocells
  have hml := hm.lt
  have hmv : MapZ (stepS k) (Zn Z w (w.alloc (decBox k M))) M (w.alloc (decBox k M)) := hm.move (by simp) (Below.heap_alloc _ _ _ hml) (fun b hb => same_cells hZ hnc (grown_some M ((Below.refl _ w).alloc (Nat.le_refl _) _)) hb)
  have hgr := grown_some M ((Below.refl _ w).alloc (Nat.le_refl _) (decBox k M))
  obtain ⟨es, clock, hme, hes⟩ := hm
  have hks : IntKeys es := fun y hy => by obtain ⟨c', h1, h2, _⟩ := hes y hy; exact ⟨c', h1, h2⟩
  have hme1 : (w.alloc (decBox k M)).heap[M]? = some (.map es clock) := (Below.heap_alloc _ _ _ hml).trans hme
  have hzv : (zeroValue 22).run Try.prog (w.alloc (decBox k M)) = .ok (.slice none 0 0) (w.alloc (decBox k M)) := by kernel_rfl
  have HBD := hid (Box.made w 103 [.bool k, .map (some M)])
  have HMV := hid hmv
  have HGR := hid hgr
  have HES := hid hes
  have HZZ := hid hZ
  have HNC := hid hnc
  have HKS := hid hks
  have HME := hid hme
  unfold decV
  clear hmv hgr hes hZ hnc
  rcases look_ints (P := Try.prog) (T := 48) Try.underlying48 Try.underlying3 hzv hme1 hks hi with hlook | ⟨e0, he0, hek, hlook⟩
  · unfold decBox at hlook
    clear hzv hme1 hks hme
    go_enter Try.func83, Try.ntmps83
    go_wp2_with (first
      | (at_lookup; refine wpList_lookInts rfl _ _ 48 rfl M c rfl rfl hlook ?_)
      | (go_at_call 85; refine (lookUp8 k M c _).mono ?_; rintro e w2 ⟨v2, rfl, ho2, hb2⟩; have d0 := (HBD.out.below hb2 HBD.out.lt).cell 0; have d1 := (HBD.out.below hb2 HBD.out.lt).ice 0; have d2 := (HBD.out.below hb2 HBD.out.lt).cell 1; have d3 := (HBD.out.below hb2 HBD.out.lt).ice 1; simp only [List.getElem?_cons_zero, List.getElem?_cons_succ] at d0 d2; have HB2 := hid hb2; have HO2 := hid ho2; obtain ⟨w3, hst, hg3, es3, ck3, hM3, hx3⟩ := store_ints (P := Try.prog) (T := 48) Try.underlying48 Try.underlying3 ((hb2.block M (by simp; omega)).trans ((Below.heap_alloc _ _ _ hml).trans HME.out)) HKS.out hi v2; have HG3 := hid hg3; have HM3 := hid hM3; have HX3 := hid hx3; clear ho2 hb2 hg3 hM3 hx3)
      | (at_mapUpdate; refine wpList_storeInts rfl _ _ _ 48 rfl M c v2 rfl rfl rfl hst ?_))
    go_ret
    exact ⟨_, rfl, mapZ_add HZZ.out HME.out HES.out (((Below.refl _ w).alloc (Nat.le_refl _) _).trans (HB2.out.mono (by simp))) (HO2.out.mono (by simp)) HG3.out HM3.out HX3.out hi⟩
  · unfold decBox at hlook
    clear hzv hme1 hks hme
    go_enter Try.func83, Try.ntmps83
    go_wp2_with (at_lookup; refine wpList_lookInts rfl _ _ 48 rfl M c rfl rfl hlook ?_)
    go_ret
    refine ⟨_, rfl, HGR.out, HMV.out, ?_⟩
    obtain ⟨c', h1, _, h3⟩ := HES.out e0 he0
    rw [hek] at h1
    cases h1
    exact h3.move (by simp) (fun b hb => same_cells HZZ.out HNC.out HGR.out hb)
end Go.Proofs.Ytdncmdpacidgmaa

/-! Dec8b -/
namespace Go.Proofs.Ytdncmdpacidgmaa
open Go.RowKit

/-- an iterator over a slice -/
def StV (Z : Nat → Prop) (W : World) (b : Nat) (xs : List Int) : Prop := ∃ v, Boxed W b 22 v ∧ Z b ∧ SlZ Z W v xs
/-- an iterator over the decompositions of a slice's numbers -/
def StE (k : Bool) (M : Nat) (Z : Nat → Prop) (W : World) (b3 b2 : Nat) (ps : List Int) : Prop := StV Z W b3 ps ∧ Z b2 ∧ W.heap[b2]? = some (decBox k M)
theorem StV.move {Z Z' : Nat → Prop} {W W' : World} {b : Nat} {xs : List Int} (h : StV Z W b xs) (hs : W.heap.size ≤ W'.heap.size) (hz : ∀ b, Z b → W'.heap[b]? = W.heap[b]? ∧ Z' b) : StV Z' W' b xs := by
  obtain ⟨v, hv, hb, hx⟩ := h
  exact ⟨v, (hz b hb).1.trans hv, (hz b hb).2, hx.move hs hz⟩
theorem StE.move {k : Bool} {M : Nat} {Z Z' : Nat → Prop} {W W' : World} {b3 b2 : Nat} {ps : List Int} (h : StE k M Z W b3 b2 ps) (hs : W.heap.size ≤ W'.heap.size) (hz : ∀ b, Z b → W'.heap[b]? = W.heap[b]? ∧ Z' b) : StE k M Z' W' b3 b2 ps :=
  ⟨h.1.move hs hz, (hz b2 h.2.1).2, (hz b2 h.2.1).1.trans h.2.2⟩
def fnV (b : Nat) : Value := .func (.func 65) #[] #[.pointer (some ⟨b, 0, none⟩)]
def fnE (b3 b2 : Nat) : Value := .func (.func 74) #[] #[.pointer (some ⟨b3, 0, none⟩), .pointer (some ⟨b2, 0, none⟩)]
/-- fv is an iterator that gives xs -/
def IterOf (k : Bool) (M d : Nat) (Z : Nat → Prop) (W : World) (fv : Value) (xs : List Int) : Prop :=
  (∃ b, fv = fnV b ∧ StV Z W b xs) ∨ (∃ b3 b2 ps, fv = fnE b3 b2 ∧ StE k M Z W b3 b2 ps ∧ xs = allS k ps ∧ ∀ c ∈ ps, deepP k d c)

theorem zn_old {Z : Nat → Prop} {w w' : World} (hZ : ∀ b, Z b → ∃ o : Obj, w.heap[b]? = some o ∧ o.isCells = true) (hb : Below w.heap.size w w') : ∀ b, Z b → w'.heap[b]? = w.heap[b]? ∧ Zn Z w w' b := fun b hz => by
  obtain ⟨o, ho, hc⟩ := hZ b hz
  have hs := hb.block b (Array.getElem?_eq_some_iff.1 ho).1
  exact ⟨hs, ⟨o, hs.trans ho, hc⟩, .inl hz⟩
theorem values8 (v : Value) (xs : List Int) (w : World) (Z : Nat → Prop) (hZ : ∀ b, Z b → ∃ o : Obj, w.heap[b]? = some o ∧ o.isCells = true) (h : SlZ Z w v xs) :
    Calls Try.prog 48 #[v] w fun e w' => e = .returned (fnV w.heap.size) ∧ StV (Zn Z w w') w' w.heap.size xs ∧ Below w.heap.size w w' := by
  have hb : Below w.heap.size w (w.alloc (.cells #[v] 22)) := (Below.refl _ w).alloc (Nat.le_refl _) _
  have hbx := Boxed.new w 22 v
  have hst : StV (Zn Z w (w.alloc (.cells #[v] 22))) (w.alloc (.cells #[v] 22)) w.heap.size xs := ⟨v, hbx, ⟨⟨_, hbx, rfl⟩, .inr (Nat.le_refl _)⟩, h.move (by simp) (zn_old hZ hb)⟩
  have HST := hid hst
  obtain ⟨a, cap, hv⟩ := h.1.form
  subst hv
  clear hst hbx h hZ
  go_enter Try.func48, Try.ntmps48
  go_wp2_with (fail)
  go_ret
  exact ⟨rfl, HST.out, hb⟩
theorem each8 (k : Bool) (M : Nat) (v : Value) (xs : List Int) (w : World) (Z : Nat → Prop) (hZ : ∀ b, Z b → ∃ o : Obj, w.heap[b]? = some o ∧ o.isCells = true) (h : SlZ Z w v xs) :
    Calls Try.prog 63 #[decV k M, v] w fun e w' => e = .returned (fnE (w.heap.size + 1) w.heap.size) ∧ StE k M (Zn Z w w') w' (w.heap.size + 1) w.heap.size xs ∧ Below w.heap.size w w' := by
  have hb : Below w.heap.size w ((w.alloc (decBox k M)).alloc (.cells #[v] 22)) := ((Below.refl _ w).alloc (Nat.le_refl _) _).alloc (by simp) _
  have hbx := Boxed.new (w.alloc (decBox k M)) 22 v
  rw [World.size_alloc] at hbx
  have hbd : ((w.alloc (decBox k M)).alloc (.cells #[v] 22)).heap[w.heap.size]? = some (decBox k M) := (Below.heap_alloc _ _ _ (by simp)).trans (World.alloc_heap_new w _)
  have hst : StE k M (Zn Z w ((w.alloc (decBox k M)).alloc (.cells #[v] 22))) ((w.alloc (decBox k M)).alloc (.cells #[v] 22)) (w.heap.size + 1) w.heap.size xs :=
    ⟨⟨v, hbx, ⟨⟨_, hbx, rfl⟩, .inr (Nat.le_succ _)⟩, h.move (by simp; omega) (zn_old hZ hb)⟩, ⟨⟨_, hbd, rfl⟩, .inr (Nat.le_refl _)⟩, hbd⟩
  have HST := hid hst
  obtain ⟨a, cap, hv⟩ := h.1.form
  subst hv
  unfold decV
  unfold decBox at hb HST
  clear hst hbx hbd h hZ
  go_enter Try.func63, Try.ntmps63
  go_wp2_with (fail)
  go_ret
  exact ⟨rfl, HST.out, hb⟩

theorem IterOf.move {k : Bool} {M d : Nat} {Z Z' : Nat → Prop} {W W' : World} {fv : Value} {xs : List Int} (h : IterOf k M d Z W fv xs) (hs : W.heap.size ≤ W'.heap.size) (hz : ∀ b, Z b → W'.heap[b]? = W.heap[b]? ∧ Z' b) : IterOf k M d Z' W' fv xs := by
  rcases h with ⟨b, h1, h2⟩ | ⟨b3, b2, ps, h1, h2, h3⟩
  · exact .inl ⟨b, h1, h2.move hs hz⟩
  · exact .inr ⟨b3, b2, ps, h1, h2.move hs hz, h3⟩
end Go.Proofs.Ytdncmdpacidgmaa

/-! Dec8c -/
namespace Go.Proofs.Ytdncmdpacidgmaa
open Go.RowKit

theorem zn_zn {Z : Nat → Prop} {w w2 w3 : World} (h : w.heap.size ≤ w2.heap.size) {b : Nat} (hb : Zn (Zn Z w w2) w2 w3 b) : Zn Z w w3 b := by
  refine ⟨hb.1, ?_⟩
  rcases hb.2 with hb | hb
  · exact hb.2
  · exact .inr (Nat.le_trans h hb)
theorem zn_cells {Z : Nat → Prop} {w w' : World} : ∀ b, Zn Z w w' b → ∃ o : Obj, w'.heap[b]? = some o ∧ o.isCells = true := fun _ h => h.1
theorem MapZ.mono {f : Int → List Int} {Z Z' : Nat → Prop} {M : Nat} {W : World} (h : MapZ f Z M W) (hz : ∀ b, Z b → Z' b) : MapZ f Z' M W := h.move (Nat.le_refl _) rfl (fun b hb => ⟨rfl, hz b hb⟩)
theorem MapZ.below {f : Int → List Int} {Z : Nat → Prop} {M : Nat} {w w' : World} (hZ : ∀ b, Z b → ∃ o : Obj, w.heap[b]? = some o ∧ o.isCells = true) (h : MapZ f Z M w) (hb : Below w.heap.size w w') : MapZ f (Zn Z w w') M w' := h.move hb.size (hb.block M h.lt) (zn_old hZ hb)
theorem grown_chain {w w2 w3 : World} {M : Nat} (h : w.grownBy w2 (some M)) (k : w2.grownBy w3 (some M)) : w.grownBy w3 (some M) := ⟨k.os.trans h.os, k.tape.trans h.tape, k.output.trans h.output, Nat.le_trans h.size k.size, fun b hb hne => (k.block b (Nat.lt_of_lt_of_le hb h.size) hne).trans (h.block b hb hne)⟩

theorem own_zn {Z : Nat → Prop} {e base : Nat} {w w2 : World} {v : Value} {xs : List Int} (ho : Own .i64 e base w2 v xs) (hb : w.heap.size ≤ base) : SlZ (Zn Z w w2) w2 v xs :=
  ho.slZ.move (Nat.le_refl _) (fun _ h => ⟨rfl, h.2, .inr (Nat.le_trans hb h.1)⟩)
theorem map_chain {f : Int → List Int} {Z : Nat → Prop} {M : Nat} {w w2 w3 w5 : World} (h1 : w.heap.size ≤ w2.heap.size) (h2 : w2.heap.size ≤ w3.heap.size) (hm : MapZ f (Zn (Zn Z w w2) w2 w3) M w3) (hb : Below w3.heap.size w3 w5) : MapZ f (Zn Z w w5) M w5 :=
  ((hm.mono (fun _ h => zn_zn h1 h)).below zn_cells hb).mono (fun _ h => zn_zn (Nat.le_trans h1 h2) h)
theorem stV_chain {Z : Nat → Prop} {w w4 w5 : World} {b : Nat} {xs : List Int} (h1 : w.heap.size ≤ w4.heap.size) (h : StV (Zn (Zn Z w w4) w4 w5) w5 b xs) : StV (Zn Z w w5) w5 b xs := h.move (Nat.le_refl _) (fun _ h => ⟨rfl, zn_zn h1 h⟩)
theorem stE_chain {k : Bool} {M : Nat} {Z : Nat → Prop} {w w2 w3 w5 : World} {b3 b2 : Nat} {xs : List Int} (h1 : w.heap.size ≤ w2.heap.size) (h2 : w2.heap.size ≤ w3.heap.size) (h : StE k M (Zn (Zn (Zn Z w w2) w2 w3) w3 w5) w5 b3 b2 xs) : StE k M (Zn Z w w5) w5 b3 b2 xs :=
  h.move (Nat.le_refl _) (fun _ h => ⟨rfl, zn_zn (Nat.le_trans h1 h2) ⟨h.1, h.2.imp (fun h => zn_zn h1 h) id⟩⟩)

set_option maxHeartbeats 2000000 in
theorem full8 (k : Bool) (M d : Nat) (c : Int) (w : World) (Z : Nat → Prop) (hd : deepP k (d + 1) c) (hZ : ∀ b, Z b → ∃ o : Obj, w.heap[b]? = some o ∧ o.isCells = true) (hm : MapZ (stepS k) Z M w) :
    Calls Try.prog 75 #[decV k M, .int .i64 c] w fun e w' => ∃ fv, e = .returned fv ∧ w.grownBy w' (some M) ∧ MapZ (stepS k) (Zn Z w w') M w' ∧ IterOf k M d (Zn Z w w') w' fv (oneS k c) := by
  obtain ⟨hi, hd⟩ := hd
  have hc := inI_I64 hi
  have HBD := hid (Box.made w 103 [.bool k, .map (some M)])
  have hb1 := (Below.refl w.heap.size w).alloc (Nat.le_refl _) (decBox k M)
  have HS := hid (fun w2 (hb : Below (w.alloc (decBox k M)).heap.size (w.alloc (decBox k M)) w2) => (show Below w.heap.size w w2 ∧ MapZ (stepS k) (Zn Z w w2) M w2 from by
    have h2 := hb1.trans (hb.mono (by simp))
    exact ⟨h2, hm.below hZ h2⟩))
  have hml := hm.lt
  unfold decV
  unfold decBox at HS
  clear hm hZ hb1
  by_cases hs : splitS c = []
  · have HSE := hid hs
    by_cases hp : stepS k c = []
    · have H1 := hid (oneS_of_plain (k := k) ⟨hs, hp⟩)
      have HPP := hid hp
      clear hs hp hd
      go_enter Try.func75, Try.ntmps75
      go_wp2_with (first
        | (go_at_call 82; refine (splitO c _ hc).mono ?_; rintro e w2 ⟨v2, rfl, ho2, hb2⟩; have HB2 := hid (HS.out w2 hb2); have HX2 := hid (HBD.out.below hb2 HBD.out.lt); have d0 := HX2.out.cell 0; have d1 := HX2.out.ice 0; have d2 := HX2.out.cell 1; have d3 := HX2.out.ice 1; simp only [List.getElem?_cons_zero, List.getElem?_cons_succ] at d0 d2; rw [HSE.out] at ho2; obtain ⟨a2, c2, hv2⟩ := ho2.sl.form; subst hv2; simp only [List.length_nil]; clear ho2 hb2)
        | (go_at_call 83; refine (parts8 k M c _ _ hi zn_cells HB2.out.2).mono ?_; rintro e w3 ⟨v3, rfl, hg3, hm3, hs3⟩; have HG3 := hid hg3; have HM3 := hid hm3; rw [HPP.out] at hs3; obtain ⟨a3, c3, hv3⟩ := hs3.1.form; subst hv3; simp only [List.length_nil]; clear hg3 hm3 hs3)
        | (go_at_call 48; have ho4 := lit_own (k := .i64) (w := w3) (xs := [c]) (e := 3) (base := w3.heap.size) (n := w3.heap.size) (len := 1) (cs := #[.int .i64 c]) rfl (Nat.le_refl _) rfl rfl (by simp); refine (values8 _ [c] _ _ zn_cells (own_zn (Z := Z) (w := w) ho4 (Nat.le_trans HB2.out.1.size HG3.out.size))).mono ?_; rintro e w5 ⟨rfl, hs5, hb5⟩; have HS5 := hid hs5; have HB5 := hid hb5; clear ho4 hs5 hb5))
      go_ret
      have hb35 : Below w3.heap.size w3 w5 := ((Below.refl _ w3).alloc (Nat.le_refl _) _).trans (HB5.out.mono (by simp))
      refine ⟨_, rfl, grown_chain (grown_chain (grown_some M HB2.out.1) HG3.out) (grown_some M hb35), map_chain HB2.out.1.size HG3.out.size HM3.out hb35, .inl ⟨_, rfl, ?_⟩⟩
      rw [H1.out]
      have h5 := HS5.out
      simp only [World.size_alloc] at h5
      exact stV_chain (by have h1 := HB2.out.1.size; have h2 := HG3.out.size; simp; omega) h5
    · have H1 := hid (one_parts (k := k) hi hs hp)
      have HD := hid (fun x hx => hd x (by rw [partS_step hs]; exact hx))
      obtain ⟨n, hn⟩ : ∃ n, n = (stepS k c).length := ⟨_, rfl⟩
      have hn0 : 0 < n := by rw [hn]; exact List.length_pos_iff.2 hp
      have HN := hid hn
      clear hs hp hd hn
      go_enter Try.func75, Try.ntmps75
      go_wp2_with (first
        | (go_at_call 82; refine (splitO c _ hc).mono ?_; rintro e w2 ⟨v2, rfl, ho2, hb2⟩; have HB2 := hid (HS.out w2 hb2); have HX2 := hid (HBD.out.below hb2 HBD.out.lt); have d0 := HX2.out.cell 0; have d1 := HX2.out.ice 0; have d2 := HX2.out.cell 1; have d3 := HX2.out.ice 1; simp only [List.getElem?_cons_zero, List.getElem?_cons_succ] at d0 d2; rw [HSE.out] at ho2; obtain ⟨a2, c2, hv2⟩ := ho2.sl.form; subst hv2; simp only [List.length_nil]; clear ho2 hb2)
        | (go_at_call 83; refine (parts8 k M c _ _ hi zn_cells HB2.out.2).mono ?_; rintro e w3 ⟨v3, rfl, hg3, hm3, hs3⟩; have HG3 := hid hg3; have HM3 := hid hm3; have HS3 := hid hs3; have HX3 := hid (show Box 103 [.bool k, .map (some M)] w.heap.size w3 from (hg3.block _ HX2.out.lt (by simp; omega)).trans HX2.out); have d0' := HX3.out.cell 0; have d1' := HX3.out.ice 0; have d2' := HX3.out.cell 1; have d3' := HX3.out.ice 1; simp only [List.getElem?_cons_zero, List.getElem?_cons_succ] at d0' d2'; obtain ⟨a3, c3, hv3⟩ := hs3.1.form; rw [← HN.out] at hv3; subst hv3; clear hg3 hm3 hs3)
        | (go_at_call 63; refine (each8 k M _ (stepS k c) _ _ zn_cells HS3.out).mono ?_; rintro e w5 ⟨rfl, hs5, hb5⟩; have HS5 := hid hs5; have HB5 := hid hb5; clear hs5 hb5))
      go_ret
      refine ⟨_, rfl, grown_chain (grown_chain (grown_some M HB2.out.1) HG3.out) (grown_some M HB5.out), map_chain HB2.out.1.size HG3.out.size HM3.out HB5.out, .inr ⟨_, _, stepS k c, rfl, stE_chain HB2.out.1.size HG3.out.size HS5.out, H1.out, HD.out⟩⟩
  · have H1 := hid (one_split (k := k) hs 3)
    obtain ⟨n, hn⟩ : ∃ n, n = (splitS c).length := ⟨_, rfl⟩
    have hn0 : 0 < n := by rw [hn]; exact List.length_pos_iff.2 hs
    have HN := hid hn
    clear hs hd hn
    go_enter Try.func75, Try.ntmps75
    go_wp2_with (first
      | (go_at_call 82; refine (splitO c _ hc).mono ?_; rintro e w2 ⟨v2, rfl, ho2, hb2⟩; have HB2 := hid (HS.out w2 hb2); have HO2 := hid ho2; obtain ⟨a2, c2, hv2⟩ := ho2.sl.form; rw [← HN.out] at hv2; subst hv2; clear ho2 hb2)
      | (go_at_call 48; refine (values8 _ (splitS c) _ _ zn_cells (own_zn (Z := Z) (w := w) HO2.out (by simp))).mono ?_; rintro e w5 ⟨rfl, hs5, hb5⟩; have HS5 := hid hs5; have HB5 := hid hb5; clear hs5 hb5))
    go_ret
    have hb25 : Below w.heap.size w w5 := HB2.out.1.trans (HB5.out.mono HB2.out.1.size)
    refine ⟨_, rfl, grown_some M hb25, (HB2.out.2.below zn_cells HB5.out).mono (fun _ h => zn_zn HB2.out.1.size h), .inl ⟨_, rfl, ?_⟩⟩
    rw [show oneS k c = splitS c from H1.out]
    exact stV_chain HB2.out.1.size HS5.out
end Go.Proofs.Ytdncmdpacidgmaa
