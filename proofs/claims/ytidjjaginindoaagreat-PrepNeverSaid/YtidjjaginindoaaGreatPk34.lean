/- Several texts in one: Dec8a, Dec8b, Dec8c, Dec8d, Dec8e, Dec8f, Dec8g. -/
import Derived.Test.YtidjjaginindoaaGreatPk14
import Derived.Test.YtidjjaginindoaaGreatPk33
import Derived.Test.YtidjjaginindoaaGreatPk19
import Derived.Test.YtidjjaginindoaaGreatPk4
import Derived.Carry
/-! Dec8a -/
namespace Go.Proofs.YtidjjaginindoaaGreat
open Go.RowKit

theorem inI_I64 {c : Int} (h : inI c = true) : I64n c := by
  unfold inI at h
  rw [decide_eq_true_iff] at h
  exact h
/-- the decomposer as a value -/
def decV (k : Bool) (M : Nat) : Value := .agg #[.bool k, .map (some M)]
def decBox (k : Bool) (M : Nat) : Obj := .cells #[.bool k, .map (some M)] 123

theorem loadD {k : Bool} {M B : Nat} {w : World} (h : Box 123 [.bool k, .map (some M)] B w) : (loadVar 123 ⟨B, 0, none⟩).run Tryz.prog w = .ok (decV k M) w := by
  have k0 := h.cell 0
  have k1 := h.cell 1
  simp only [List.getElem?_cons_zero, List.getElem?_cons_succ] at k0 k1
  simp [go_sem, k0, k1, decV]
theorem newDec8 (k : Bool) (w : World) : Calls Tryz.prog 101 #[.bool k] w fun e w' => ∃ M, e = .returned (decV k M) ∧ w.heap.size ≤ M ∧ w'.heap[M]? = some (.map #[] 0) ∧ Below w.heap.size w w' := by
  go_enter Tryz.func101, Tryz.ntmps101
  go_wp2_with (fail)
  simp only [run_makeMap, Result.andThen]
  go_wp2
  refine bodyPost_ret (results_one rfl rfl (loadD (show Box 123 [.bool k, .map (some (w.heap.size + 1))] w.heap.size _ from (Box.made w 123 _).alloc _))) rfl ⟨w.heap.size + 1, rfl, by omega, ?_, by (repeat (first | exact Below.refl _ _ | exact below_drewN _ | refine Below.drew ?_ | refine Below.alloc ?_ (by simp) _ | refine Below.setCell ?_ (by simp) _ | refine below_drewN' ?_ _))⟩
  have := World.alloc_heap_new (w.alloc (.cells #[.bool k, .map (some (w.heap.size + 1))] 123)) (.map #[] 0)
  rwa [World.size_alloc] at this

set_option maxHeartbeats 1000000 in
theorem lookUp8 (k : Bool) (M : Nat) (c : Int) (w : World) : Calls Tryz.prog 136 #[decV k M, .int .i64 c] w fun e w' => ∃ x, e = .returned x ∧ Own .i64 3 w.heap.size w' x (stepS k c) ∧ Below w.heap.size w w' := by
  unfold decV
  have bD := Box.made w 123 [.bool k, .map (some M)]
  have HBD := hid bD
  clear bD
  by_cases hc : canonS c = []
  · have HCE := hid hc
    cases k with
    | true =>
      have HP := hid (show stepS true c = mapS tabCompat c by unfold stepS; rw [hc]; rfl)
      clear hc
      go_enter Tryz.func136, Tryz.ntmps136
      go_wp2_with (first
        | (go_at_call 26; refine (ucdCanonO c _).mono ?_; rintro e w2 ⟨v2, rfl, ho2, hb2⟩; have HB2 := hid hb2; rw [HCE.out] at ho2; obtain ⟨a2, c2, hv2⟩ := ho2.sl.form; subst hv2; simp only [List.length_nil]; have d0 := (HBD.out.below hb2 HBD.out.lt).cell 0; have d1 := (HBD.out.below hb2 HBD.out.lt).ice 0; simp only [List.getElem?_cons_zero] at d0; clear ho2 hb2)
        | (go_at_call 142; refine (ucdCompatO c _).mono ?_; rintro e w3 ⟨v3, rfl, ho3, hb3⟩; have HO3 := hid ho3; have HB3 := hid (HB2.out.trans (hb3.mono HB2.out.size)); clear ho3 hb3))
      go_ret
      exact ⟨_, rfl, by rw [HP.out]; exact HO3.out.mono (by have := HB2.out.size; simp at this; omega), ((Below.refl _ w).alloc (Nat.le_refl _) _).trans (HB3.out.mono (by simp))⟩
    | false =>
      have HP := hid (show stepS false c = canonS c by unfold stepS; rw [hc]; rfl)
      clear hc
      go_enter Tryz.func136, Tryz.ntmps136
      go_wp2_with (go_at_call 26; refine (ucdCanonO c _).mono ?_; rintro e w2 ⟨v2, rfl, ho2, hb2⟩; have HB2 := hid hb2; have HO2 := hid ho2; rw [HCE.out] at ho2; obtain ⟨a2, c2, hv2⟩ := ho2.sl.form; subst hv2; simp only [List.length_nil]; have d0 := (HBD.out.below hb2 HBD.out.lt).cell 0; have d1 := (HBD.out.below hb2 HBD.out.lt).ice 0; simp only [List.getElem?_cons_zero] at d0; clear ho2 hb2)
      go_ret
      exact ⟨_, rfl, by rw [HP.out]; exact HO2.out.mono (by simp), ((Below.refl _ w).alloc (Nat.le_refl _) _).trans (HB2.out.mono (by simp))⟩
  · have HP := hid (show stepS k c = canonS c from step_canon hc)
    obtain ⟨n, hn⟩ : ∃ n, n = (canonS c).length := ⟨_, rfl⟩
    have hn0 : 0 < n := by rw [hn]; exact List.length_pos_iff.2 hc
    have HN := hid hn
    clear hc hn
    go_enter Tryz.func136, Tryz.ntmps136
    go_wp2_with (go_at_call 26; refine (ucdCanonO c _).mono ?_; rintro e w2 ⟨v2, rfl, ho2, hb2⟩; have HB2 := hid hb2; have HO2 := hid ho2; obtain ⟨a2, c2, hv2⟩ := ho2.sl.form; rw [← HN.out] at hv2; subst hv2; clear ho2 hb2)
    go_ret
    exact ⟨_, rfl, by rw [HP.out]; exact HO2.out.mono (by simp), ((Below.refl _ w).alloc (Nat.le_refl _) _).trans (HB2.out.mono (by simp))⟩
/-- the Z, and what is new -/
def Zn (Z : Nat → Prop) (w w' : World) (b : Nat) : Prop := (∃ o : Obj, w'.heap[b]? = some o ∧ o.isCells = true) ∧ (Z b ∨ w.heap.size ≤ b)
theorem same_cells {w w' : World} {M : Nat} {Z : Nat → Prop} (hZ : ∀ b, Z b → ∃ o : Obj, w.heap[b]? = some o ∧ o.isCells = true) (hM : NoCells w (some M)) (hg : w.grownBy w' (some M)) {b : Nat} (hb : Z b) : w'.heap[b]? = w.heap[b]? ∧ Zn Z w w' b := by
  obtain ⟨o, ho, hc⟩ := hZ b hb
  have hs : w'.heap[b]? = w.heap[b]? := hg.block b (Array.getElem?_eq_some_iff.1 ho).1 (fun e => by
    obtain ⟨o', ho', hc'⟩ := hM b e.symm
    rw [ho] at ho'
    cases ho'
    rw [hc] at hc'
    cases hc')
  exact ⟨hs, ⟨o, hs.trans ho, hc⟩, .inl hb⟩
theorem grown_some {w w' : World} (M : Nat) (hb : Below w.heap.size w w') : w.grownBy w' (some M) := ⟨hb.os, hb.tape, hb.output, hb.size, fun k hk _ => hb.block k hk⟩
theorem mapZ_add {f : Int → List Int} {Z : Nat → Prop} {M e : Nat} {w w2 w' : World} {es es' : Array MapEntry} {clock clock' : Nat} {c : Int} {x : Value} (hZ : ∀ b, Z b → ∃ o : Obj, w.heap[b]? = some o ∧ o.isCells = true)
    (hm : w.heap[M]? = some (.map es clock)) (he : ∀ y ∈ es.toList, ∃ c, y.key = .int .i64 c ∧ inI c = true ∧ SlZ Z w y.val (f c)) (h12 : Below w.heap.size w w2) (ho : Own .i64 e w.heap.size w2 x (f c))
    (hg : w2.grownBy w' (some M)) (hM' : w'.heap[M]? = some (.map es' clock')) (hx : ∀ y ∈ es'.toList, y ∈ es.toList ∨ (y.key = .int .i64 c ∧ y.val = x)) (hi : inI c = true) :
    w.grownBy w' (some M) ∧ MapZ f (Zn Z w w') M w' ∧ SlZ (Zn Z w w') w' x (f c) := by
  have hml := (Array.getElem?_eq_some_iff.1 hm).1
  have hg' : w.grownBy w' (some M) := ⟨hg.os.trans h12.os, hg.tape.trans h12.tape, hg.output.trans h12.output, Nat.le_trans h12.size hg.size, fun k hk hne => (hg.block k (Nat.lt_of_lt_of_le hk h12.size) hne).trans (h12.block k hk)⟩
  have hnc : NoCells w (some M) := fun r e => by cases e; exact ⟨_, hm, rfl⟩
  have hxs : SlZ (Zn Z w w') w' x (f c) := ho.slZ.move hg.size (fun b hb => by
    obtain ⟨hb1, o, hb2, hb3⟩ := hb
    have hs : w'.heap[b]? = w2.heap[b]? := hg.block b (Array.getElem?_eq_some_iff.1 hb2).1 (fun e => by
      have e' : b = M := by simpa using e
      omega)
    exact ⟨hs, ⟨o, hs.trans hb2, hb3⟩, .inr hb1⟩)
  refine ⟨hg', ⟨es', clock', hM', fun y hy => ?_⟩, hxs⟩
  rcases hx y hy with hy | ⟨h1, h2⟩
  · obtain ⟨c', h1, h2, h3⟩ := he y hy
    exact ⟨c', h1, h2, h3.move hg'.size (fun b hb => same_cells hZ hnc hg' hb)⟩
  · exact ⟨c, h1, hi, by rw [h2]; exact hxs⟩

set_option maxHeartbeats 1000000 in
theorem parts8 (k : Bool) (M : Nat) (c : Int) (w : World) (Z : Nat → Prop) (hi : inI c = true) (hZ : ∀ b, Z b → ∃ o : Obj, w.heap[b]? = some o ∧ o.isCells = true) (hm : MapZ (stepS k) Z M w) :
    Calls Tryz.prog 132 #[decV k M, .int .i64 c] w fun e w' => ∃ x, e = .returned x ∧ w.grownBy w' (some M) ∧ MapZ (stepS k) (Zn Z w w') M w' ∧ SlZ (Zn Z w w') w' x (stepS k c) := by
  have hnc := hm.nocells
  have hml := hm.lt
  have hmv : MapZ (stepS k) (Zn Z w (w.alloc (decBox k M))) M (w.alloc (decBox k M)) := hm.move (by simp) (Below.heap_alloc _ _ _ hml) (fun b hb => same_cells hZ hnc (grown_some M ((Below.refl _ w).alloc (Nat.le_refl _) _)) hb)
  have hgr := grown_some M ((Below.refl _ w).alloc (Nat.le_refl _) (decBox k M))
  obtain ⟨es, clock, hme, hes⟩ := hm
  have hks : IntKeys es := fun y hy => by obtain ⟨c', h1, h2, _⟩ := hes y hy; exact ⟨c', h1, h2⟩
  have hme1 : (w.alloc (decBox k M)).heap[M]? = some (.map es clock) := (Below.heap_alloc _ _ _ hml).trans hme
  have hzv : (zeroValue 22).run Tryz.prog (w.alloc (decBox k M)) = .ok (.slice none 0 0) (w.alloc (decBox k M)) := by kernel_rfl
  have HBD := hid (Box.made w 123 [.bool k, .map (some M)])
  have HMV := hid hmv
  have HGR := hid hgr
  have HES := hid hes
  have HZZ := hid hZ
  have HNC := hid hnc
  have HKS := hid hks
  have HME := hid hme
  unfold decV
  clear hmv hgr hes hZ hnc
  rcases look_ints (P := Tryz.prog) (T := 62) Tryz.underlying62 Tryz.underlying3 hzv hme1 hks hi with hlook | ⟨e0, he0, hek, hlook⟩
  · unfold decBox at hlook
    clear hzv hme1 hks hme
    go_enter Tryz.func132, Tryz.ntmps132
    go_wp2_with (first
      | (at_lookup; refine wpList_lookInts rfl _ _ 62 rfl M c rfl rfl hlook ?_)
      | (go_at_call 136; refine (lookUp8 k M c _).mono ?_; rintro e w2 ⟨v2, rfl, ho2, hb2⟩; have d0 := (HBD.out.below hb2 HBD.out.lt).cell 0; have d1 := (HBD.out.below hb2 HBD.out.lt).ice 0; have d2 := (HBD.out.below hb2 HBD.out.lt).cell 1; have d3 := (HBD.out.below hb2 HBD.out.lt).ice 1; simp only [List.getElem?_cons_zero, List.getElem?_cons_succ] at d0 d2; have HB2 := hid hb2; have HO2 := hid ho2; obtain ⟨w3, hst, hg3, es3, ck3, hM3, hx3⟩ := store_ints (P := Tryz.prog) (T := 62) Tryz.underlying62 Tryz.underlying3 ((hb2.block M (by simp; omega)).trans ((Below.heap_alloc _ _ _ hml).trans HME.out)) HKS.out hi v2; have HG3 := hid hg3; have HM3 := hid hM3; have HX3 := hid hx3; clear ho2 hb2 hg3 hM3 hx3)
      | (at_mapUpdate; refine wpList_storeInts rfl _ _ _ 62 rfl M c v2 rfl rfl rfl hst ?_))
    go_ret
    exact ⟨_, rfl, mapZ_add HZZ.out HME.out HES.out (((Below.refl _ w).alloc (Nat.le_refl _) _).trans (HB2.out.mono (by simp))) (HO2.out.mono (by simp)) HG3.out HM3.out HX3.out hi⟩
  · unfold decBox at hlook
    clear hzv hme1 hks hme
    go_enter Tryz.func132, Tryz.ntmps132
    go_wp2_with (at_lookup; refine wpList_lookInts rfl _ _ 62 rfl M c rfl rfl hlook ?_)
    go_ret
    refine ⟨_, rfl, HGR.out, HMV.out, ?_⟩
    obtain ⟨c', h1, _, h3⟩ := HES.out e0 he0
    rw [hek] at h1
    cases h1
    exact h3.move (by simp) (fun b hb => same_cells HZZ.out HNC.out HGR.out hb)
end Go.Proofs.YtidjjaginindoaaGreat

/-! Dec8b -/
namespace Go.Proofs.YtidjjaginindoaaGreat
open Go.RowKit

/-- an iterator over a slice -/
def StV (Z : Nat → Prop) (W : World) (b : Nat) (xs : List Int) : Prop := ∃ v, Boxed W b 22 v ∧ Z b ∧ SlZ Z W v xs
/-- an iterator over the decompositions of a slice's numbers -/
def StE (k : Bool) (M : Nat) (Z : Nat → Prop) (W : World) (b3 b2 : Nat) (ps : List Int) : Prop := StV Z W b3 ps ∧ Z b2 ∧ W.heap[b2]? = some (decBox k M)
theorem StV.move {Z Z' : Nat → Prop} {W W' : World} {b : Nat} {xs : List Int} (h : StV Z W b xs) (hs : W.heap.size ≤ W'.heap.size) (hz : ∀ b, Z b → W'.heap[b]? = W.heap[b]? ∧ Z' b) : StV Z' W' b xs := by
  obtain ⟨v, hv, hb, hx⟩ := h
  exact ⟨v, (hz b hb).1.trans hv, (hz b hb).2, hx.move hs hz⟩
theorem StE.move {k : Bool} {M : Nat} {Z Z' : Nat → Prop} {W W' : World} {b3 b2 : Nat} {ps : List Int} (h : StE k M Z W b3 b2 ps) (hs : W.heap.size ≤ W'.heap.size) (hz : ∀ b, Z b → W'.heap[b]? = W.heap[b]? ∧ Z' b) : StE k M Z' W' b3 b2 ps :=
  ⟨h.1.move hs hz, (hz b2 h.2.1).2, (hz b2 h.2.1).1.trans h.2.2⟩
def fnV (b : Nat) : Value := .func (.func 121) #[] #[.pointer (some ⟨b, 0, none⟩)]
def fnE (b3 b2 : Nat) : Value := .func (.func 117) #[] #[.pointer (some ⟨b3, 0, none⟩), .pointer (some ⟨b2, 0, none⟩)]
/-- fv is an iterator that gives xs -/
def IterOf (k : Bool) (M d : Nat) (Z : Nat → Prop) (W : World) (fv : Value) (xs : List Int) : Prop :=
  (∃ b, fv = fnV b ∧ StV Z W b xs) ∨ (∃ b3 b2 ps, fv = fnE b3 b2 ∧ StE k M Z W b3 b2 ps ∧ xs = allS k ps ∧ ∀ c ∈ ps, deepP k d c)

theorem zn_old {Z : Nat → Prop} {w w' : World} (hZ : ∀ b, Z b → ∃ o : Obj, w.heap[b]? = some o ∧ o.isCells = true) (hb : Below w.heap.size w w') : ∀ b, Z b → w'.heap[b]? = w.heap[b]? ∧ Zn Z w w' b := fun b hz => by
  obtain ⟨o, ho, hc⟩ := hZ b hz
  have hs := hb.block b (Array.getElem?_eq_some_iff.1 ho).1
  exact ⟨hs, ⟨o, hs.trans ho, hc⟩, .inl hz⟩
theorem values8 (v : Value) (xs : List Int) (w : World) (Z : Nat → Prop) (hZ : ∀ b, Z b → ∃ o : Obj, w.heap[b]? = some o ∧ o.isCells = true) (h : SlZ Z w v xs) :
    Calls Tryz.prog 105 #[v] w fun e w' => e = .returned (fnV w.heap.size) ∧ StV (Zn Z w w') w' w.heap.size xs ∧ Below w.heap.size w w' := by
  have hb : Below w.heap.size w (w.alloc (.cells #[v] 22)) := (Below.refl _ w).alloc (Nat.le_refl _) _
  have hbx := Boxed.new w 22 v
  have hst : StV (Zn Z w (w.alloc (.cells #[v] 22))) (w.alloc (.cells #[v] 22)) w.heap.size xs := ⟨v, hbx, ⟨⟨_, hbx, rfl⟩, .inr (Nat.le_refl _)⟩, h.move (by simp) (zn_old hZ hb)⟩
  have HST := hid hst
  obtain ⟨a, cap, hv⟩ := h.1.form
  subst hv
  clear hst hbx h hZ
  go_enter Tryz.func105, Tryz.ntmps105
  go_wp2_with (fail)
  go_ret
  exact ⟨rfl, HST.out, hb⟩
theorem each8 (k : Bool) (M : Nat) (v : Value) (xs : List Int) (w : World) (Z : Nat → Prop) (hZ : ∀ b, Z b → ∃ o : Obj, w.heap[b]? = some o ∧ o.isCells = true) (h : SlZ Z w v xs) :
    Calls Tryz.prog 102 #[decV k M, v] w fun e w' => e = .returned (fnE (w.heap.size + 1) w.heap.size) ∧ StE k M (Zn Z w w') w' (w.heap.size + 1) w.heap.size xs ∧ Below w.heap.size w w' := by
  have hb : Below w.heap.size w ((w.alloc (decBox k M)).alloc (.cells #[v] 22)) := ((Below.refl _ w).alloc (Nat.le_refl _) _).alloc (by simp) _
  have hbx := Boxed.new (w.alloc (decBox k M)) 22 v
  rw [World.size_alloc] at hbx
  have hbd : ((w.alloc (decBox k M)).alloc (.cells #[v] 22)).heap[w.heap.size]? = some (decBox k M) := (Below.heap_alloc _ _ _ (by simp)).trans (World.alloc_heap_new w _)
  have hst : StE k M (Zn Z w ((w.alloc (decBox k M)).alloc (.cells #[v] 22))) ((w.alloc (decBox k M)).alloc (.cells #[v] 22)) (w.heap.size + 1) w.heap.size xs :=
    ⟨⟨v, hbx, ⟨⟨_, hbx, rfl⟩, .inr (Nat.le_succ _)⟩, h.move (by simp; omega) (zn_old hZ hb)⟩, ⟨⟨_, hbd, rfl⟩, .inr (Nat.le_refl _)⟩, hbd⟩
  have HST := hid hst
  obtain ⟨a, cap, hv⟩ := h.1.form
  subst hv
  unfold decV
  unfold decBox at hb HST
  clear hst hbx hbd h hZ
  go_enter Tryz.func102, Tryz.ntmps102
  go_wp2_with (fail)
  go_ret
  exact ⟨rfl, HST.out, hb⟩

theorem IterOf.move {k : Bool} {M d : Nat} {Z Z' : Nat → Prop} {W W' : World} {fv : Value} {xs : List Int} (h : IterOf k M d Z W fv xs) (hs : W.heap.size ≤ W'.heap.size) (hz : ∀ b, Z b → W'.heap[b]? = W.heap[b]? ∧ Z' b) : IterOf k M d Z' W' fv xs := by
  rcases h with ⟨b, h1, h2⟩ | ⟨b3, b2, ps, h1, h2, h3⟩
  · exact .inl ⟨b, h1, h2.move hs hz⟩
  · exact .inr ⟨b3, b2, ps, h1, h2.move hs hz, h3⟩
end Go.Proofs.YtidjjaginindoaaGreat

/-! Dec8c -/
namespace Go.Proofs.YtidjjaginindoaaGreat
open Go.RowKit

theorem zn_zn {Z : Nat → Prop} {w w2 w3 : World} (h : w.heap.size ≤ w2.heap.size) {b : Nat} (hb : Zn (Zn Z w w2) w2 w3 b) : Zn Z w w3 b := by
  refine ⟨hb.1, ?_⟩
  rcases hb.2 with hb | hb
  · exact hb.2
  · exact .inr (Nat.le_trans h hb)
theorem zn_cells {Z : Nat → Prop} {w w' : World} : ∀ b, Zn Z w w' b → ∃ o : Obj, w'.heap[b]? = some o ∧ o.isCells = true := fun _ h => h.1
theorem MapZ.mono {f : Int → List Int} {Z Z' : Nat → Prop} {M : Nat} {W : World} (h : MapZ f Z M W) (hz : ∀ b, Z b → Z' b) : MapZ f Z' M W := h.move (Nat.le_refl _) rfl (fun b hb => ⟨rfl, hz b hb⟩)
theorem MapZ.below {f : Int → List Int} {Z : Nat → Prop} {M : Nat} {w w' : World} (hZ : ∀ b, Z b → ∃ o : Obj, w.heap[b]? = some o ∧ o.isCells = true) (h : MapZ f Z M w) (hb : Below w.heap.size w w') : MapZ f (Zn Z w w') M w' := h.move hb.size (hb.block M h.lt) (zn_old hZ hb)
theorem grown_chain {w w2 w3 : World} {M : Nat} (h : w.grownBy w2 (some M)) (k : w2.grownBy w3 (some M)) : w.grownBy w3 (some M) := ⟨k.os.trans h.os, k.tape.trans h.tape, k.output.trans h.output, Nat.le_trans h.size k.size, fun b hb hne => (k.block b (Nat.lt_of_lt_of_le hb h.size) hne).trans (h.block b hb hne)⟩

theorem own_zn {Z : Nat → Prop} {e base : Nat} {w w2 : World} {v : Value} {xs : List Int} (ho : Own .i64 e base w2 v xs) (hb : w.heap.size ≤ base) : SlZ (Zn Z w w2) w2 v xs :=
  ho.slZ.move (Nat.le_refl _) (fun _ h => ⟨rfl, h.2, .inr (Nat.le_trans hb h.1)⟩)
theorem map_chain {f : Int → List Int} {Z : Nat → Prop} {M : Nat} {w w2 w3 w5 : World} (h1 : w.heap.size ≤ w2.heap.size) (h2 : w2.heap.size ≤ w3.heap.size) (hm : MapZ f (Zn (Zn Z w w2) w2 w3) M w3) (hb : Below w3.heap.size w3 w5) : MapZ f (Zn Z w w5) M w5 :=
  ((hm.mono (fun _ h => zn_zn h1 h)).below zn_cells hb).mono (fun _ h => zn_zn (Nat.le_trans h1 h2) h)
theorem stV_chain {Z : Nat → Prop} {w w4 w5 : World} {b : Nat} {xs : List Int} (h1 : w.heap.size ≤ w4.heap.size) (h : StV (Zn (Zn Z w w4) w4 w5) w5 b xs) : StV (Zn Z w w5) w5 b xs := h.move (Nat.le_refl _) (fun _ h => ⟨rfl, zn_zn h1 h⟩)
theorem stE_chain {k : Bool} {M : Nat} {Z : Nat → Prop} {w w2 w3 w5 : World} {b3 b2 : Nat} {xs : List Int} (h1 : w.heap.size ≤ w2.heap.size) (h2 : w2.heap.size ≤ w3.heap.size) (h : StE k M (Zn (Zn (Zn Z w w2) w2 w3) w3 w5) w5 b3 b2 xs) : StE k M (Zn Z w w5) w5 b3 b2 xs :=
  h.move (Nat.le_refl _) (fun _ h => ⟨rfl, zn_zn (Nat.le_trans h1 h2) ⟨h.1, h.2.imp (fun h => zn_zn h1 h) id⟩⟩)

set_option maxHeartbeats 2000000 in
theorem full8 (k : Bool) (M d : Nat) (c : Int) (w : World) (Z : Nat → Prop) (hd : deepP k (d + 1) c) (hZ : ∀ b, Z b → ∃ o : Obj, w.heap[b]? = some o ∧ o.isCells = true) (hm : MapZ (stepS k) Z M w) :
    Calls Tryz.prog 118 #[decV k M, .int .i64 c] w fun e w' => ∃ fv, e = .returned fv ∧ w.grownBy w' (some M) ∧ MapZ (stepS k) (Zn Z w w') M w' ∧ IterOf k M d (Zn Z w w') w' fv (oneS k c) := by
  obtain ⟨hi, hd⟩ := hd
  have hc := inI_I64 hi
  have HBD := hid (Box.made w 123 [.bool k, .map (some M)])
  have hb1 := (Below.refl w.heap.size w).alloc (Nat.le_refl _) (decBox k M)
  have HS := hid (fun w2 (hb : Below (w.alloc (decBox k M)).heap.size (w.alloc (decBox k M)) w2) => (show Below w.heap.size w w2 ∧ MapZ (stepS k) (Zn Z w w2) M w2 from by
    have h2 := hb1.trans (hb.mono (by simp))
    exact ⟨h2, hm.below hZ h2⟩))
  have hml := hm.lt
  unfold decV
  unfold decBox at HS
  clear hm hZ hb1
  by_cases hs : splitS c = []
  · have HSE := hid hs
    by_cases hp : stepS k c = []
    · have H1 := hid (oneS_of_plain (k := k) ⟨hs, hp⟩)
      have HPP := hid hp
      clear hs hp hd
      go_enter Tryz.func118, Tryz.ntmps118
      go_wp2_with (first
        | (go_at_call 131; refine (splitO c _ hc).mono ?_; rintro e w2 ⟨v2, rfl, ho2, hb2⟩; have HB2 := hid (HS.out w2 hb2); have HX2 := hid (HBD.out.below hb2 HBD.out.lt); have d0 := HX2.out.cell 0; have d1 := HX2.out.ice 0; have d2 := HX2.out.cell 1; have d3 := HX2.out.ice 1; simp only [List.getElem?_cons_zero, List.getElem?_cons_succ] at d0 d2; rw [HSE.out] at ho2; obtain ⟨a2, c2, hv2⟩ := ho2.sl.form; subst hv2; simp only [List.length_nil]; clear ho2 hb2)
        | (go_at_call 132; refine (parts8 k M c _ _ hi zn_cells HB2.out.2).mono ?_; rintro e w3 ⟨v3, rfl, hg3, hm3, hs3⟩; have HG3 := hid hg3; have HM3 := hid hm3; rw [HPP.out] at hs3; obtain ⟨a3, c3, hv3⟩ := hs3.1.form; subst hv3; simp only [List.length_nil]; clear hg3 hm3 hs3)
        | (go_at_call 105; have ho4 := lit_own (k := .i64) (w := w3) (xs := [c]) (e := 3) (base := w3.heap.size) (n := w3.heap.size) (len := 1) (cs := #[.int .i64 c]) rfl (Nat.le_refl _) rfl rfl (by simp); refine (values8 _ [c] _ _ zn_cells (own_zn (Z := Z) (w := w) ho4 (Nat.le_trans HB2.out.1.size HG3.out.size))).mono ?_; rintro e w5 ⟨rfl, hs5, hb5⟩; have HS5 := hid hs5; have HB5 := hid hb5; clear ho4 hs5 hb5))
      go_ret
      have hb35 : Below w3.heap.size w3 w5 := ((Below.refl _ w3).alloc (Nat.le_refl _) _).trans (HB5.out.mono (by simp))
      refine ⟨_, rfl, grown_chain (grown_chain (grown_some M HB2.out.1) HG3.out) (grown_some M hb35), map_chain HB2.out.1.size HG3.out.size HM3.out hb35, .inl ⟨_, rfl, ?_⟩⟩
      rw [H1.out]
      have h5 := HS5.out
      simp only [World.size_alloc] at h5
      exact stV_chain (by have h1 := HB2.out.1.size; have h2 := HG3.out.size; simp; omega) h5
    · have H1 := hid (one_parts (k := k) hi hs hp)
      have HD := hid (fun x hx => hd x (by rw [partS_step hs]; exact hx))
      obtain ⟨n, hn⟩ : ∃ n, n = (stepS k c).length := ⟨_, rfl⟩
      have hn0 : 0 < n := by rw [hn]; exact List.length_pos_iff.2 hp
      have HN := hid hn
      clear hs hp hd hn
      go_enter Tryz.func118, Tryz.ntmps118
      go_wp2_with (first
        | (go_at_call 131; refine (splitO c _ hc).mono ?_; rintro e w2 ⟨v2, rfl, ho2, hb2⟩; have HB2 := hid (HS.out w2 hb2); have HX2 := hid (HBD.out.below hb2 HBD.out.lt); have d0 := HX2.out.cell 0; have d1 := HX2.out.ice 0; have d2 := HX2.out.cell 1; have d3 := HX2.out.ice 1; simp only [List.getElem?_cons_zero, List.getElem?_cons_succ] at d0 d2; rw [HSE.out] at ho2; obtain ⟨a2, c2, hv2⟩ := ho2.sl.form; subst hv2; simp only [List.length_nil]; clear ho2 hb2)
        | (go_at_call 132; refine (parts8 k M c _ _ hi zn_cells HB2.out.2).mono ?_; rintro e w3 ⟨v3, rfl, hg3, hm3, hs3⟩; have HG3 := hid hg3; have HM3 := hid hm3; have HS3 := hid hs3; have HX3 := hid (show Box 123 [.bool k, .map (some M)] w.heap.size w3 from (hg3.block _ HX2.out.lt (by simp; omega)).trans HX2.out); have d0' := HX3.out.cell 0; have d1' := HX3.out.ice 0; have d2' := HX3.out.cell 1; have d3' := HX3.out.ice 1; simp only [List.getElem?_cons_zero, List.getElem?_cons_succ] at d0' d2'; obtain ⟨a3, c3, hv3⟩ := hs3.1.form; rw [← HN.out] at hv3; subst hv3; clear hg3 hm3 hs3)
        | (go_at_call 102; refine (each8 k M _ (stepS k c) _ _ zn_cells HS3.out).mono ?_; rintro e w5 ⟨rfl, hs5, hb5⟩; have HS5 := hid hs5; have HB5 := hid hb5; clear hs5 hb5))
      go_ret
      refine ⟨_, rfl, grown_chain (grown_chain (grown_some M HB2.out.1) HG3.out) (grown_some M HB5.out), map_chain HB2.out.1.size HG3.out.size HM3.out HB5.out, .inr ⟨_, _, stepS k c, rfl, stE_chain HB2.out.1.size HG3.out.size HS5.out, H1.out, HD.out⟩⟩
  · have H1 := hid (one_split (k := k) hs 3)
    obtain ⟨n, hn⟩ : ∃ n, n = (splitS c).length := ⟨_, rfl⟩
    have hn0 : 0 < n := by rw [hn]; exact List.length_pos_iff.2 hs
    have HN := hid hn
    clear hs hd hn
    go_enter Tryz.func118, Tryz.ntmps118
    go_wp2_with (first
      | (go_at_call 131; refine (splitO c _ hc).mono ?_; rintro e w2 ⟨v2, rfl, ho2, hb2⟩; have HB2 := hid (HS.out w2 hb2); have HO2 := hid ho2; obtain ⟨a2, c2, hv2⟩ := ho2.sl.form; rw [← HN.out] at hv2; subst hv2; clear ho2 hb2)
      | (go_at_call 105; refine (values8 _ (splitS c) _ _ zn_cells (own_zn (Z := Z) (w := w) HO2.out (by simp))).mono ?_; rintro e w5 ⟨rfl, hs5, hb5⟩; have HS5 := hid hs5; have HB5 := hid hb5; clear hs5 hb5))
    go_ret
    have hb25 : Below w.heap.size w w5 := HB2.out.1.trans (HB5.out.mono HB2.out.1.size)
    refine ⟨_, rfl, grown_some M hb25, (HB2.out.2.below zn_cells HB5.out).mono (fun _ h => zn_zn HB2.out.1.size h), .inl ⟨_, rfl, ?_⟩⟩
    rw [show oneS k c = splitS c from H1.out]
    exact stV_chain HB2.out.1.size HS5.out
end Go.Proofs.YtidjjaginindoaaGreat

/-! Dec8d -/
namespace Go.Proofs.YtidjjaginindoaaGreat
open Go.RowKit Go.Shelf
attribute [local go_sem] Oper.semAt_some

theorem wideD (m : Nat) : Fence.wide.depth.isSome = true → 1 ≤ m := fun h => by cases h

set_option maxRecDepth 100000 in
set_option maxHeartbeats 2000000 in
theorem valuesGives (f : Int → List Int) (M B n₀ b : Nat) (xs : List Int) :
    GivesM Tryz.prog 121 #[.pointer (some ⟨b, 0, none⟩)] f M B n₀ 22 (fun W => StV (FreeOf B 22 W) W b xs) xs := by
  intro m l J W hJ hY h0 hSt hM
  obtain ⟨v, hv, hb, hs⟩ := hSt
  have hc0 := hv.cell
  obtain ⟨a, cap, hvf⟩ := hs.1.form
  subst hvf
  have hlen := hs.1.len
  obtain ⟨n, hn⟩ : ∃ n, n = xs.length := ⟨_, rfl⟩
  have HN := hid hn
  have HS := hid hs
  have HH := hid (show xs.take n = xs from by rw [hn, List.take_length])
  have HYY := hid hY
  have HTK := hid (fun j (hj : j < n) => (show xs.take (j + 1) = xs.take j ++ [xs.getD j 0] from by
    have e : xs.getD j 0 = xs[j]'(by omega) := by rw [List.getD_eq_getElem?_getD, List.getElem?_eq_getElem (by omega)]; rfl
    rw [e, List.take_succ_eq_append_getElem (by omega)]))
  rw [← hn] at hlen hc0
  clear hY hs hn hb hJ
  refine callsIn_of_wp Tryz.func121 rfl trivial ?_ rfl
  simp only [Tryz.ntmps121, List.size_toArray, List.length_cons, List.length_nil, Nat.reduceAdd, Nat.reduceSub, Array.replicate_succ, Array.replicate_zero, List.push_toArray, List.append_toArray, List.nil_append, List.cons_append]
  gi_wp2
  gi_loopw [7] (fun iv wr => ∃ j : Nat, j ≤ n ∧ iv = .int .i64 j ∧ Hid (J (xs.take j) wr) ∧ Hid (MemB f M B n₀ 22 wr) ∧ Hid (SlZ (FreeOf B 22 wr) wr (.slice a n cap) xs)) (fun iv _ => n - (intOf iv).toNat)
  case atStart => exact ⟨0, by omega, rfl, h0, hM, by show SlZ _ _ _ _; rw [HN.out]; exact HS.out⟩
  case round =>
    obtain ⟨j, hj, rfl, hJj, hMj, hSj⟩ := hrel
    by_cases hlt : j < n
    · have hsl := hSj.out.1
      obtain ⟨a2, c2, hv2, hq2, -, h2⟩ := hsl
      injection hv2 with e1 e2 e3
      subst e1 e3
      rcases h2 with hc | ⟨b1, o1, rfl, hbb, hc⟩
      · have := HN.out
        omega
      have d1 := hc j (by have := HN.out; omega)
      have HTK2 := hid (HTK.out j hlt)
      have HY2 := HYY.out m (xs.take j) (xs.getD j 0) wr hJj.out hMj.out (by rw [List.length_take]; have := HN.out; omega)
      clear hc hbb HTK hq2 e2 HYY
      generalize xs.getD j 0 = y at d1 HTK2 HY2
      obtain ⟨fn, tmps, assign, body, hy, hR⟩ := HY2
      gi_wp2_with ((try refine ⟨wideD _, ?_⟩); refine (round_anyDepth rfl hR).mono ?_; clear hR; rintro e W2 ⟨rfl, hJ2, hk2⟩; have HJ2 := hid hJ2; have HK2 := hid hk2; clear hJ2 hk2)
      go_roundw
      case rel => exact ⟨j + 1, by omega, by go_num, by show J _ _; rw [HTK2.out]; exact HJ2.out, hMj.out.kr HK2.out, hSj.out.move HK2.out.1.1.size (fun b hb => HK2.out.free hMj.out.box hb)⟩
      case measure => simp [intOf]; omega
    · obtain rfl : j = n := by omega
      gi_wp2
      exact bodyPost_end (results_none rfl _ _ _) rfl ⟨⟨_, rfl⟩, by rw [← HH.out]; exact hJj.out, hMj.out⟩
end Go.Proofs.YtidjjaginindoaaGreat

/-! Dec8e -/
namespace Go.Proofs.YtidjjaginindoaaGreat
open Go.RowKit Go.Shelf
attribute [local go_sem] Oper.semAt_some

/-- the return through the marks, whatever abides their turn -/
theorem leaves_marksM {F : Fence} {n : Nat} {P : Program} {fn : Func} {tmps : Array Value} {R : Ending → World → Prop} {base : Nat} {T : World → Prop}
    (hT : ∀ w l o o', base ≤ l → w.heap[l]? = some o → o.isCells = false → T w → T (w.putObj l o')) : ∀ (ds : List Deferred) (w : World), Marks base w ds → T w →
    (∀ w', T w' → LeavesInM F n P fn tmps R [] .returning w') → LeavesInM F n P fn tmps R ds .returning w
  | [], w, _, ht, h => h w ht
  | d :: ds, w, ⟨⟨D, hd, hb, hh, hn⟩, ht⟩, hw, h => by
    subst hd
    refine ⟨by simp, .inl ⟨D, _, rfl, run_takeDeferred hh, ?_⟩⟩
    exact leaves_marksM hT ds _ (ht.turned fun D' hD' => World.putObj_heap_other (fun e => hn _ hD' (by rw [e]))) (hT w D _ _ hb hh rfl hw) h

/-- what the iterator has in hand: its slice, its decomposer, the yield that it was called at -/
structure EachSt (k : Bool) (M B : Nat) (t : TypeId) (v yv : Value) (ps : List Int) (b2 Y : Nat) (X : World) : Prop where
  slice : SlZ (FreeOf B t X) X v ps
  free2 : FreeOf B t X b2
  dec : X.heap[b2]? = some (decBox k M)
  freeY : FreeOf B t X Y
  yield : X.heap[Y]? = some (.cells #[yv] 52)
theorem EachSt.move {k : Bool} {M B : Nat} {t : TypeId} {v yv : Value} {ps : List Int} {b2 Y : Nat} {X X' : World} (h : EachSt k M B t v yv ps b2 Y X) (hs : X.heap.size ≤ X'.heap.size) (hz : ∀ b, FreeOf B t X b → X'.heap[b]? = X.heap[b]? ∧ FreeOf B t X' b) : EachSt k M B t v yv ps b2 Y X' :=
  ⟨h.slice.move hs hz, (hz _ h.free2).2, (hz _ h.free2).1.trans h.dec, (hz _ h.freeY).2, (hz _ h.freeY).1.trans h.yield⟩
theorem free_turn {B : Nat} {t : TypeId} {X X' : World} {row : Option Nat} (hi : InvB B t X) (hg : X.grownBy X' row) (hr : NoCells X row) : ∀ b, FreeOf B t X b → X'.heap[b]? = X.heap[b]? ∧ FreeOf B t X' b := fun _ hb => ⟨hb.same hg hr, hb.grown hi hg hr⟩
theorem free_zn {B M : Nat} {t : TypeId} {X X' : World} (hi : InvB B t X) (hg : X.grownBy X' (some M)) (hr : NoCells X (some M)) : ∀ b, Zn (FreeOf B t X) X X' b → FreeOf B t X' b := fun _ hb => by
  rcases hb.2 with h | h
  · exact h.grown hi hg hr
  · exact FreeOf.new hi hg hr h hb.1

theorem iter_gives {k : Bool} {M B n₀ d : Nat} {Z : Nat → Prop} {w : World} {fv : Value} {xs : List Int}
    (HI : ∀ b3 b2 ps, (∀ c ∈ ps, deepP k d c) → GivesM Tryz.prog 117 #[.pointer (some ⟨b3, 0, none⟩), .pointer (some ⟨b2, 0, none⟩)] (stepS k) M B n₀ 22 (fun W => StE k M (FreeOf B 22 W) W b3 b2 ps) (allS k ps))
    (h : IterOf k M d Z w fv xs) (hi : InvB B 22 w) (hZ : ∀ b, Z b → FreeOf B 22 w b) :
    ∃ gf lb St, fv = .func (.func gf) #[] lb ∧ (∀ args w, (callFunc gf args).run Tryz.prog w = .ok (.enter gf args) w) ∧ GivesM Tryz.prog gf lb (stepS k) M B n₀ 22 St xs ∧ ∀ o o', St ((w.alloc o).alloc o') := by
  have hz : ∀ o o' b, Z b → ((w.alloc o).alloc o').heap[b]? = w.heap[b]? ∧ FreeOf B 22 ((w.alloc o).alloc o') b := fun o o' b hb => by
    have hg := (((Below.refl w.heap.size w).alloc (Nat.le_refl _) o).alloc (by simp) o')
    have hg' : w.grownBy ((w.alloc o).alloc o') none := ⟨hg.os, hg.tape, hg.output, hg.size, fun k hk _ => hg.block k hk⟩
    exact free_turn hi hg' (NoCells.none _) b (hZ b hb)
  rcases h with ⟨b, h1, h2⟩ | ⟨b3, b2, ps, h1, h2, h3, h4⟩
  · exact ⟨_, _, _, h1, enters_of Tryz.func121 (by kernel_rfl) rfl, valuesGives (stepS k) M B n₀ b xs, fun o o' => h2.move (by simp; omega) (hz o o')⟩
  · exact ⟨_, _, _, h1, enters_of Tryz.func117 (by kernel_rfl) rfl, by rw [h3]; exact HI b3 b2 ps h4, fun o o' => h2.move (by simp; omega) (hz o o')⟩

set_option maxRecDepth 100000 in
set_option maxHeartbeats 4000000 in
theorem eachStep (k : Bool) (M B n₀ d : Nat)
    (HI : ∀ d', d' + 1 = d → ∀ b3 b2 ps, (∀ c ∈ ps, deepP k d' c) → GivesM Tryz.prog 117 #[.pointer (some ⟨b3, 0, none⟩), .pointer (some ⟨b2, 0, none⟩)] (stepS k) M B n₀ 22 (fun W => StE k M (FreeOf B 22 W) W b3 b2 ps) (allS k ps))
    (b3 b2 : Nat) (ps : List Int) (hps : ∀ c ∈ ps, deepP k d c) : GivesM Tryz.prog 117 #[.pointer (some ⟨b3, 0, none⟩), .pointer (some ⟨b2, 0, none⟩)] (stepS k) M B n₀ 22 (fun W => StE k M (FreeOf B 22 W) W b3 b2 ps) (allS k ps) := by
  intro m l J W hJ hY h0 hSt hM
  obtain ⟨⟨v, hv, hb3, hs⟩, hb2, hdec⟩ := hSt
  have hMlt := hM.map.lt
  have hgY := World.grownBy_alloc W (.cells #[.func (.yield l) #[] #[]] 52) none
  have hmY := hM.grown hgY (NoCells.none _) (by simp)
  have hfY := free_turn hM.box hgY (NoCells.none _)
  have hYb := Boxed.new W 52 (.func (.yield l) #[] #[])
  have hES : EachSt k M B 22 v (.func (.yield l) #[] #[]) ps b2 W.heap.size (W.alloc (.cells #[.func (.yield l) #[] #[]] 52)) :=
    ⟨hs.move hgY.size hfY, (hfY _ hb2).2, (hfY _ hb2).1.trans hdec, FreeOf.new hM.box hgY (NoCells.none _) (Nat.le_refl _) ⟨_, hYb, rfl⟩, hYb⟩
  have hJY := hJ.alloc h0 (.cells #[.func (.yield l) #[] #[]] 52)
  have hc0 := hv.cell
  have hc1 := (hv.alloc (.cells #[.func (.yield l) #[] #[]] 52)).cell
  obtain ⟨a, cap, hvf⟩ := hs.1.form
  subst hvf
  have hlen := hs.1.len
  obtain ⟨n, hn⟩ : ∃ n, n = ps.length := ⟨_, rfl⟩
  rw [← hn] at hlen hc0 hc1 hES
  have HN := hid hn
  have HES := hid hES
  have HMY := hid hmY
  have HJY := hid hJY
  have HJ := hid hJ
  have HYY := hid hY
  have HPS := hid hps
  clear hn hES hmY hJY hJ hY hps hs hb2 hb3 hdec hfY hYb hM h0 hgY hv hc0
  refine callsIn_of_wp_marks Tryz.func117 rfl trivial ?_ rfl
  simp only [Tryz.ntmps117, List.size_toArray, List.length_cons, List.length_nil, Nat.reduceAdd, Nat.reduceSub, Array.replicate_succ, Array.replicate_zero, List.push_toArray, List.append_toArray, List.nil_append, List.cons_append]
  gi_wp2
  refine wpIn_loop (fun a' X => ∃ (j : Nat) (u5 u10 u11 u12 u13 u14 u15 u21 : Value) (ds : List Deferred), j ≤ n ∧ a' = { tmps := #[.func (.yield l) #[] #[], .pointer (some ⟨b3, 0, none⟩), .pointer (some ⟨b2, 0, none⟩), .pointer (some ⟨W.heap.size, 0, none⟩), undef, u5, undef, .slice a n cap, .int .i64 n, .int .i64 j, u10, u11, u12, u13, u14, u15, undef, undef, undef, undef, undef, u21], defers := ds } ∧ Hid (J (allS k (ps.take j)) X) ∧ Hid (MemB (stepS k) M B n₀ 22 X) ∧ Hid (EachSt k M B 22 (.slice a n cap) (.func (.yield l) #[] #[]) ps b2 W.heap.size X) ∧ Hid (W.heap.size ≤ X.heap.size) ∧ Hid (Marks W.heap.size X ds))
    (fun a' _ => n - (intOf (a'.tmps.getD 9 undef)).toNat) ?start ?round
  case start => exact ⟨0, undef, undef, undef, undef, undef, undef, undef, undef, [], Nat.zero_le _, rfl, HJY.out, HMY.out, HES.out, by show _ ≤ _; simp, trivial⟩
  case round =>
    rintro a' X ⟨j, u5, u10, u11, u12, u13, u14, u15, u21, ds, hj, rfl, hJj, hMj, hEj, hsz, hmk⟩
    by_cases hlt : j < n
    · have hcj : deepP k d (ps.getD j 0) := HPS.out _ (by
        have e : ps.getD j 0 = ps[j]'(by have := HN.out; omega) := by rw [List.getD_eq_getElem?_getD, List.getElem?_eq_getElem (by have := HN.out; omega)]; rfl
        rw [e]
        exact List.getElem_mem _)
      have HTK2 := hid (show allS k (ps.take (j + 1)) = allS k (ps.take j) ++ oneS k (ps.getD j 0) from by
        have e : ps.getD j 0 = ps[j]'(by have := HN.out; omega) := by rw [List.getD_eq_getElem?_getD, List.getElem?_eq_getElem (by have := HN.out; omega)]; rfl
        rw [e, List.take_succ_eq_append_getElem (by have := HN.out; omega), allS_app]
        congr 1
        unfold allS; simp)
      have HLE := hid (show (allS k (ps.take j)).length + (oneS k (ps.getD j 0)).length ≤ (allS k ps).length from by
        have h2 : allS k ps = allS k (ps.take (j + 1)) ++ allS k (ps.drop (j + 1)) := by rw [← allS_app, List.take_append_drop]
        rw [h2, HTK2.out]
        simp)
      obtain ⟨a2, c2, hv2, hq2, -, h2⟩ := hEj.out.slice.1
      injection hv2 with e1 e2 e3
      subst e1 e3
      rcases h2 with hc | ⟨b1, o1, rfl, hbb, hc⟩
      · have := HN.out
        omega
      have d1 := hc j (by have := HN.out; omega)
      have hbx : Box 123 [.bool k, .map (some M)] b2 X := hEj.out.dec
      have d2 := hbx.cell 0
      have d3 := hbx.ice 0
      have d4 := hbx.cell 1
      have d5 := hbx.ice 1
      simp only [List.getElem?_cons_zero, List.getElem?_cons_succ] at d2 d4
      clear hc hbb hq2 e2 hbx
      generalize ps.getD j 0 = c at d1 hcj HTK2 HLE
      obtain ⟨P, hP⟩ : ∃ P, P = allS k (ps.take j) := ⟨_, rfl⟩
      rw [← hP] at hJj HTK2 HLE
      clear hP
      obtain ⟨d', rfl⟩ : ∃ d', d = d' + 1 := by
        cases d with
        | zero => exact hcj.elim
        | succ d' => exact ⟨d', rfl⟩
      have HF := hid (full8 k M d' c X (FreeOf B 22 X) hcj (fun b h => h.1) hMj.out.map)
      have HI' := hid (HI d' rfl)
      clear HI hcj
      gi_wp2_with (refine ⟨trivial, wideD _, ?_⟩; gi_at_call 118; refine (callsIn_wide.2 HF.out).mono ?_; rintro e X2 ⟨fv, rfl, hg2, hm2, hit2⟩)
      have hnc := hMj.out.map.nocells
      have hi2 := hMj.out.box.grown hg2 hnc
      have hM2 : MemB (stepS k) M B n₀ 22 X2 := ⟨Nat.le_trans hMj.out.size hg2.size, hMj.out.above, hi2, hm2.mono (free_zn hMj.out.box hg2 hnc)⟩
      have hE2 := hEj.out.move hg2.size (free_turn hMj.out.box hg2 hnc)
      have hJ2 := HJ.out _ X X2 (some M) hJj.out hg2 (fun r e => by cases e; exact ⟨.inl rfl, hnc M rfl⟩)
      have hmk2 : Marks W.heap.size X2 ds := hmk.out.turned (fun D hD => hg2.block D (hmk.out.lt D hD) (fun e => by
        have h1 := (hmk.out.at hD).1
        have h2 : D = M := by simpa using e
        omega))
      have hsz2 : W.heap.size ≤ X2.heap.size := Nat.le_trans hsz.out hg2.size
      obtain ⟨gf, lb, St, hfv, heg, hgv, hst⟩ := iter_gives HI'.out hit2 hi2 (free_zn hMj.out.box hg2 hnc)
      subst hfv
      clear hit2 hm2 HF HI' d1 d2 d3 d4 d5 hEj hMj hJj hmk
      have HYP := hid (fun m' pre x (Z1 : World) (h : J (P ++ pre) Z1) (hm : MemB (stepS k) M B n₀ 22 Z1) (hl : pre.length < (oneS k c).length) => HYY.out m' (P ++ pre) x Z1 h hm (by rw [List.length_append]; have := HLE.out; omega))
      refine wpIn_rangeFunc_M rfl heg hgv hst hM2 rfl (fun pre Z1 => J (P ++ pre) Z1 ∧ (InvB B 22 Z1 ∧ EachSt k M B 22 (.slice (some ⟨b1, o1, none⟩) n cap) (.func (.yield l) #[] #[]) ps b2 W.heap.size Z1) ∧ Marks W.heap.size Z1 ds)
        (((HJ.out.mono hsz2).fn (fun pre => P ++ pre)).and ((abidesM_cells (fun _ _ _ _ hs hg hr => ⟨hs.1.grown hg hr, hs.2.move hg.size (free_turn hs.1 hg hr)⟩)).and (abidesM_marks hMlt hmk2.lt)))
        ⟨by rw [List.append_nil]; exact hJ2, ⟨hi2, hE2⟩, hmk2⟩
        (fun x => { tmps := #[.func (.yield l) #[] #[], .pointer (some ⟨b3, 0, none⟩), .pointer (some ⟨b2, 0, none⟩), .pointer (some ⟨W.heap.size, 0, none⟩), undef, .int .i64 c, .int .i64 x, .slice (some ⟨b1, o1, none⟩) n cap, .int .i64 n, .int .i64 j, .bool true, .pointer (some ⟨b1, o1 + j, none⟩), .int .i64 c, .agg #[.bool k, .map (some M)], .int .i64 c, .func (.func gf) #[] lb, .int .i64 x, undef, undef, undef, undef, u21], defers := [] }) ?assign ?body ?done
      case assign =>
        intro l x W K hK
        gi_wp2
        exact hK
      case body =>
        rintro l2 pre x X3 ⟨hJ3, ⟨hi3, hE3⟩, hmk3⟩ hM3 hl3
        have hbY : Boxed X3 W.heap.size 52 (.func (.yield l) #[] #[]) := hE3.yield
        have hcY := hbY.cell
        have HY2 := HYP.out m pre x X3 hJ3 hM3 hl3
        have HE3 := hid hE3
        have HI3 := hid hi3
        have HK3 := hid hmk3
        clear hbY hE3 hi3 hmk3 hJ3 hM3
        obtain ⟨fn, tmps, assign, body, hy, hR⟩ := HY2
        gi_wp2_with ((try refine ⟨wideD _, ?_⟩); refine (round_anyDepth rfl hR).mono ?_; clear hR; rintro e X4 ⟨rfl, hJ4, hk4⟩; have HJ4 := hid hJ4; have HK4 := hid hk4; clear hJ4 hk4)
        exact ⟨HK4.out, by rw [← List.append_assoc]; exact HJ4.out, ⟨HK4.out.1.inv HI3.out, HE3.out.move HK4.out.1.1.size (fun b hb => HK4.out.free HI3.out hb)⟩, HK3.out.others HK4.out.2⟩
      case done =>
        rintro D X3 hD ⟨hJ3, ⟨hi3, hE3⟩, hmk3⟩ hM3 hK
        obtain ⟨j2, hj2⟩ : ∃ j2, j2 = j + 1 := ⟨_, rfl⟩
        have ej : (j : Int) + 1 = (j2 : Int) := by omega
        have wj : wrap64 (j2 : Int) = (j2 : Int) := by unfold wrap64; omega
        have hm2 := hmk3.cons (Nat.le_trans hsz2 hD) hK fun D' h' => Nat.lt_of_lt_of_le (hmk2.lt D' h') hD
        have hle2 : j2 ≤ n := by rw [hj2]; exact hlt
        have hlt2 : n - j2 < n - j := by rw [hj2]; exact Nat.sub_lt_sub_left hlt (Nat.lt_succ_self j)
        rw [← HTK2.out, ← hj2] at hJ3
        have hs3 : W.heap.size ≤ X3.heap.size := Nat.le_of_lt (Nat.lt_of_le_of_lt (Nat.le_trans hsz2 hD) (Array.getElem?_eq_some_iff.1 hK).1)
        clear hj2 hmk3 hgv hst heg HYP HLE HTK2
        gi_wp2
        refine ⟨⟨j2, _, _, _, _, _, _, _, _, _ :: ds, hle2, rfl, hJ3, hM3, hE3, hs3, hm2⟩, ?_⟩
        simpa [intOf] using hlt2
    · obtain rfl : j = n := by omega
      have hJn := hJj.out
      rw [show ps.take j = ps by rw [HN.out, List.take_length]] at hJn
      gi_wp2
      refine leaves_marksM (T := fun w' => J (allS k ps) w' ∧ MemB (stepS k) M B n₀ 22 w') (fun w' l' o o' hl hlo hc ht => ⟨HJ.out.putObj ht.1 o' hl hlo hc, ht.2.grown (grownBy_putObj' w' l' o') (fun r e => by cases e; exact ⟨o, hlo, hc⟩) (by simp; omega)⟩) ds X hmk.out ⟨hJn, hMj.out⟩ fun w' hw' => ?_
      exact ⟨_, results_none rfl _ _ _, ⟨_, rfl⟩, hw'⟩
theorem eachGives (k : Bool) (M B n₀ : Nat) : ∀ (d : Nat) (b3 b2 : Nat) (ps : List Int), (∀ c ∈ ps, deepP k d c) → GivesM Tryz.prog 117 #[.pointer (some ⟨b3, 0, none⟩), .pointer (some ⟨b2, 0, none⟩)] (stepS k) M B n₀ 22 (fun W => StE k M (FreeOf B 22 W) W b3 b2 ps) (allS k ps) := by
  intro d
  induction d with
  | zero => exact eachStep k M B n₀ 0 (fun d' h => by omega)
  | succ d ih => exact eachStep k M B n₀ (d + 1) (fun d' h => by cases h; exact ih)
end Go.Proofs.YtidjjaginindoaaGreat

/-! Dec8f -/
namespace Go.Proofs.YtidjjaginindoaaGreat
open Go.RowKit Go.Shelf
attribute [local go_sem] Oper.semAt_some

set_option maxRecDepth 100000 in
set_option maxHeartbeats 4000000 in
theorem appendSeq8 (k : Bool) (M d n₀ : Nat) (fv : Value) (xs : List Int) (w : World) (Z : Nat → Prop) (hZ : ∀ b, Z b → ∃ o : Obj, w.heap[b]? = some o ∧ o.isCells = true) (hm : MapZ (stepS k) Z M w) (hit : IterOf k M d Z w fv xs) (hn : n₀ ≤ w.heap.size) (hnM : n₀ ≤ M) (hlen : xs.length ≤ 300000000) :
    Calls Tryz.prog 80 #[.slice none 0 0, fv] w fun e w' => ∃ x, e = .returned x ∧ Own .i64 3 w.heap.size w' x xs ∧ Below n₀ w w' := by
  obtain ⟨i0, hi0, hz0, hz1, hz2⟩ := info_parts Tryz.infoI64
  have bO := Boxed.new w 22 (.slice none 0 0)
  have hB0 : Below n₀ w (w.alloc (.cells #[.slice none 0 0] 22)) := (Below.refl _ w).alloc hn _
  have hiB : InvB w.heap.size 22 (w.alloc (.cells #[.slice none 0 0] 22)) := ⟨_, bO, fun r e => by cases e⟩
  have hfree : ∀ b, Z b → (w.alloc (.cells #[.slice none 0 0] 22)).heap[b]? = w.heap[b]? ∧ FreeOf w.heap.size 22 (w.alloc (.cells #[.slice none 0 0] 22)) b := fun b hb => by
    obtain ⟨o, ho, hc⟩ := hZ b hb
    have hlt := (Array.getElem?_eq_some_iff.1 ho).1
    have hs := Below.heap_alloc w (.cells #[.slice none 0 0] 22) b hlt
    refine ⟨hs, ⟨o, hs.trans ho, hc⟩, by omega, fun u hu => ?_⟩
    obtain rfl : u = .slice none 0 0 := by
      have := (show (w.alloc _).heap[w.heap.size]? = _ from hu).symm.trans bO
      simpa using this
    simp [Value.ownBlock]
  have hmem : MemB (stepS k) M w.heap.size n₀ 22 (w.alloc (.cells #[.slice none 0 0] 22)) := ⟨by simp; omega, hnM, hiB, hm.move (by simp) (Below.heap_alloc _ _ _ hm.lt) hfree⟩
  have hit1 := hit.move (by simp) hfree
  obtain ⟨gf, lb, St, hfv, heg, hgv, hst⟩ := iter_gives (eachGives k M w.heap.size n₀ d) hit1 hiB (fun _ h => h)
  subst hfv
  clear hit hit1 hfree hm hZ
  refine (callsIn_wide (n := 9)).1 ?_
  refine callsIn_of_wp_marks Tryz.func80 rfl trivial ?_ rfl
  simp only [Tryz.ntmps80, List.size_toArray, List.length_cons, List.length_nil, Nat.reduceAdd, Nat.reduceSub, Array.replicate_succ, Array.replicate_zero, List.push_toArray, List.append_toArray, List.nil_append, List.cons_append]
  gi_wp2
  obtain ⟨w0, hw0⟩ : ∃ w0, w.alloc (.cells #[.slice none 0 0] 22) = w0 := ⟨_, rfl⟩
  have hs0 : w0.heap.size = w.heap.size + 1 := by rw [← hw0]; simp
  rw [hw0] at bO hB0 hmem hst ⊢
  refine wpIn_rangeFunc_M rfl heg hgv hst hmem rfl (fun pre W => (∃ v, Boxed W w.heap.size 22 v ∧ W.ownsRow w.heap.size 3 1 v pre.length (pre.map (Value.int .i64)) ∧ True) ∧ Below n₀ w W)
    ((abidesM_cells (fun s X Y row hs hg hr => holdsRow_own w.heap.size w.heap.size 22 3 1 (fun pre : List Int => pre.length) (fun pre => pre.map (Value.int .i64)) (fun _ _ => True) s X Y row hs hg hr)).and (abidesM_below hn (by omega) hnM))
    ⟨⟨_, bO, World.ownsRow_nil _ _ _ _, trivial⟩, hB0⟩
    (fun x => { tmps := #[.slice none 0 0, .func (.func gf) #[] lb, .pointer (some ⟨w.heap.size, 0, none⟩), undef, .slice none 0 0, .int .i64 x, .func (.func gf) #[] lb, .int .i64 x, undef, undef, undef, undef, undef], defers := [] }) ?assign ?body ?done
  case assign =>
    intro l x W K hK
    gi_wp2
    exact hK
  case body =>
    rintro l pre x W ⟨⟨v, hv, hrow, -⟩, hB⟩ hM hlt
    have hc := hv.cell
    have hsz : w.heap.size ≤ W.heap.size := Nat.le_of_lt hv.lt
    gi_wp2_with (gi_at_builtin; refine wpListIn_appMoves _ rfl _ _ 22 rfl w.heap.size 3 i0 (.int .i64 0) 1 8 Tryz.underlying22 hi0 hz0 hz1 hz2 rfl (by decide) _ _ _ rfl (hrow.alloc _) ⟨W.heap.size, 0, none⟩ 1 1 [.int .i64 x] rfl rfl (cell_one_new _ _ _) (by simp [Value.oneCell']) (by unfold maxLen; omega) (by omega) (by simp; omega) ?_; intro v' w1 hown' hgrow _ hmv; obtain ⟨g', cap', rfl⟩ := ownsRow_succ hown'; obtain ⟨hv1, hv2, hr2, hk2, hb2⟩ := hv.appended (by decide) hrow hsz (Nat.le_refl _) hown' hgrow; have hc1 := hv1.cell; have hf1 := hv1.frozen)
    have hK1 : KeepRow n₀ w.heap.size 22 W (W.alloc (.cells #[.int .i64 x] 3)) := KeepRow.of_below (by (repeat (first | exact Below.refl _ _ | exact below_drewN _ | refine Below.drew ?_ | refine Below.alloc ?_ (by simp) _ | refine Below.setCell ?_ (by simp) _ | refine below_drewN' ?_ _))) (by omega)
    have hK2 := keepRow_appended (n₀ := n₀) (by decide) (hv.alloc (.cells #[.int .i64 x] 3)) hn hn (by simp; omega) (show Own .i64 3 w.heap.size (W.alloc (.cells #[.int .i64 x] 3)) v pre from hrow.alloc _) (show Own .i64 3 w.heap.size w1 _ (pre ++ [x]) from by unfold Own; rw [List.length_append, List.map_append]; exact hown') hgrow hmv
    exact ⟨⟨hK1.trans hK2.1, hk2⟩, ⟨_, hv2, by rw [List.length_append, List.map_append]; exact hr2, trivial⟩, hB.trans (hb2.mono hn)⟩
  case done =>
    rintro D W hD ⟨⟨v, hv, hrow, -⟩, hB⟩ hM hK
    have hc := hv.cell
    gi_wp2
    refine ⟨by simp, .inl ⟨_, _, rfl, run_takeDeferred hK, ?_⟩⟩
    exact ⟨_, results_tmp rfl _ _ _, v, rfl, ownsRow_putObj hrow _ hK rfl, hB.grown (grownBy_putObj' W D _) (by have := hv.lt; omega) (fun r e => by cases e; omega)⟩
theorem collect8 (k : Bool) (M d n₀ : Nat) (fv : Value) (xs : List Int) (w : World) (Z : Nat → Prop) (hZ : ∀ b, Z b → ∃ o : Obj, w.heap[b]? = some o ∧ o.isCells = true) (hm : MapZ (stepS k) Z M w) (hit : IterOf k M d Z w fv xs) (hn : n₀ ≤ w.heap.size) (hnM : n₀ ≤ M) (hlen : xs.length ≤ 300000000) :
    Calls Tryz.prog 49 #[fv] w fun e w' => ∃ x, e = .returned x ∧ Own .i64 3 w.heap.size w' x xs ∧ Below n₀ w w' := by
  have HA := hid (appendSeq8 k M d n₀ fv xs w Z hZ hm hit hn hnM hlen)
  clear hm hit hZ
  go_enter Tryz.func49, Tryz.ntmps49
  go_wp2_with (go_at_call 80; refine HA.out.mono ?_; rintro e w1 ⟨v1, rfl, ho1, hb1⟩; have HO1 := hid ho1; have HB1 := hid hb1; clear ho1 hb1)
  go_ret
  exact ⟨_, rfl, HO1.out, HB1.out⟩
end Go.Proofs.YtidjjaginindoaaGreat

/-! Dec8g -/
namespace Go.Proofs.YtidjjaginindoaaGreat
open Go.RowKit Go.Shelf

theorem mapZ_none {f : Int → List Int} {Z : Nat → Prop} {M : Nat} {W : World} (h : W.heap[M]? = some (.map #[] 0)) : MapZ f Z M W := ⟨_, _, h, fun e he => by simp at he⟩
theorem Sl.slZ {w : World} {v : Value} {xs : List Int} (h : Sl .i64 w v xs) : SlZ (fun b => ∃ o : Obj, w.heap[b]? = some o ∧ o.isCells = true) w v xs := by
  refine ⟨h, fun a n c e h0 => ?_⟩
  obtain ⟨a1, cap, hv, hl, hm, hh⟩ := h
  rw [e] at hv
  injection hv with e1 e2 e3
  rcases hh with hh | ⟨b, off, ha, hb, hc⟩
  · omega
  · rw [ha] at e1
    injection e1 with e1
    subst e1
    exact cells_of_cell (hc 0 h0)
theorem below_turned {M : Nat} {w w1 w2 w3 : World} (h1 : Below w.heap.size w w1) (hM : w.heap.size ≤ M) (hg : w1.grownBy w2 (some M)) (h3 : Below w.heap.size w2 w3) : Below w.heap.size w w3 :=
  (h1.grown hg h1.size (fun r e => by cases e; exact hM)).trans h3

set_option maxHeartbeats 1000000 in
theorem all8 (k : Bool) (v : Value) (s : List Int) (w : World) (hs : Sl .i64 w v s) (hi : s.all inI = true) (hl : s.length ≤ 1000000) : Calls Tryz.prog 79 #[v, .bool k] w fun e w' => ∃ x, e = .returned x ∧ Own .i64 3 w.heap.size w' x (allS k s) ∧ Below w.heap.size w w' := by
  have hlen : (allS k s).length ≤ s.length * (3 ^ 4 * 3) := each_len k 4 s
  have HD := hid (fun x (hx : x ∈ s) => deep_five (k := k) (List.all_eq_true.1 hi x hx))
  have HS := hid hs
  obtain ⟨a, cap, hv⟩ := hs.form
  subst hv
  clear hs
  go_enter Tryz.func79, Tryz.ntmps79
  go_wp2_with (first
    | (go_at_call 101; refine (newDec8 k _).mono ?_; rintro e w1 ⟨M, rfl, hM, hm1, hb1⟩; have HM1 := hid hm1; have HB1 := hid hb1; have HS1 := hid (Sl.slZ (HS.out.below hb1)); clear hm1 hb1)
    | (go_at_call 102; refine (each8 k M _ s w1 (fun b => ∃ o : Obj, w1.heap[b]? = some o ∧ o.isCells = true) (fun _ h => h) HS1.out).mono ?_; rintro e w2 ⟨rfl, hi2, hb2⟩; have HB2 := hid hb2; have HI2 := hid hi2; clear hb2 hi2)
    | (go_at_call 49; refine (collect8 k M 5 w.heap.size _ (allS k s) w2 _ zn_cells (MapZ.below (fun _ h => h) (mapZ_none HM1.out) HB2.out) (.inr ⟨_, _, s, rfl, HI2.out, rfl, HD.out⟩) (Nat.le_trans HB1.out.size HB2.out.size) hM (by omega)).mono ?_; rintro e w3 ⟨v3, rfl, ho3, hb3⟩; have HO3 := hid ho3; have HB3 := hid hb3; clear ho3 hb3))
  go_ret
  exact ⟨_, rfl, HO3.out.mono (Nat.le_trans HB1.out.size HB2.out.size), below_turned HB1.out hM (grown_some M HB2.out) HB3.out⟩
theorem allDec : DAllOk := fun k v s w hs hi hl => all8 k v s w hs hi hl
end Go.Proofs.YtidjjaginindoaaGreat
