/- Contracts of package ucd's rows that are composed again, and of Pair. -/
import Derived.Test.YtpdcmfnemfopjaaUcd9
import Derived.Test.YtpdcmfnemfopjaaUcd10
import Derived.Test.YtpdcmfnemfopjaaUcd4
namespace Go.Proofs.Ytpdcmfnemfopjaa
open Go.RowKit
open Go.Great (wp_anyFrame)

theorem apiClassesO (w : World) : Calls Try.prog 31 #[] w fun e w' => ∃ v, e = .returned v ∧ OwnG 37 w.heap.size w' v tabClasses ∧ Below w.heap.size w w' := by
  refine calls_of_wp Try.func31 rfl ?_
  refine wp_anyFrame 28 (by as_aux_lemma => kernel_rfl) rfl fun a0 hs0 hd0 => ?_
  apply wp_seq_k; intro K0 hK0
  apply wp_region_lit
  refine Go.Great.wpList_readTo rfl (some 0) rfl (.slice none 0 0) rfl ?_
  apply wpList_nil
  refine hK0 _ _ ?_
  clear hK0 K0
  refine wp_anyFrame 28 (by simp only [Act.size_put, hs0]) (by simp only [Act.defers_put', hd0]) fun a1 hs1 hd1 => ?_
  apply wp_seq_k; intro K1 hK1
  apply wp_region_lit
  refine Go.Great.wpList_splitAt 26 (Go.Great.rgOps 37 "tables.go:80" .i64 1 (tri tabClasses)) (by as_aux_lemma => kernel_rfl) ?_
  refine Go.Great.wpList_rgs 37 "tables.go:80" .i64 (fun _ _ _ => by as_aux_lemma => kernel_rfl) _ 1 _ (by rw [hs1]; exact Nat.le_of_ble_eq_true (by as_aux_lemma => kernel_rfl)) fun b hb hbd hev _ => ?_
  refine Go.Great.wpList_buildRgs rfl 33 37 _ .i64 (tri tabClasses).toArray rfl 1 w.heap.size rfl (some 27) rfl (by as_aux_lemma => kernel_rfl) (by as_aux_lemma => kernel_rfl) (by as_aux_lemma => kernel_rfl) (by decide) (by decide) (by as_aux_lemma => kernel_rfl) hev ?_
  refine Go.Great.wpList_readTo rfl (some 0) rfl (.slice (some ⟨w.heap.size, 0, none⟩) 26 26) ?_ ?_
  · have := Act.eval_put_same b 27 (.slice (some ⟨w.heap.size, 0, none⟩) 26 26) (by rw [hb, hs1]; omega)
    exact congrArg (fun v => Result.ok (Next.value v) _) this
  apply wpList_nil
  refine hK1 _ _ ?_
  refine wp_ret (bodyPost_ret (results_tmp rfl _ _ _) (by simp only [Act.defers_put', hbd, hd1]) ⟨_, rfl, ?_, by (repeat (first | exact Below.refl _ _ | exact below_drewN _ | refine Below.drew ?_ | refine Below.alloc ?_ (by simp) _ | refine Below.setCell ?_ (by simp) _ | refine below_drewN' ?_ _))⟩)
  have := Act.eval_put_same (b.put (some 27) (.slice (some ⟨w.heap.size, 0, none⟩) 26 26)) 0 (.slice (some ⟨w.heap.size, 0, none⟩) 26 26) (by rw [Act.size_put, hb, hs1]; omega)
  rw [show ∀ a : Act, a.tmps.getD 0 undef = a.eval (.tmp 0) from fun _ => rfl]
  exact (congrArg (fun v => OwnG _ _ _ v tabClasses) this).mpr (ownG_made rfl (by as_aux_lemma => kernel_rfl) (Nat.le_refl _) ((tri_cells (by decide)).trans gv_tri) (by decide))


def exclL : List Int := [836, 2392, 2393, 64285, 64298, 64299]
theorem apiExcludedO (w : World) : Calls Try.prog 39 #[] w fun e w' => ∃ v, e = .returned v ∧ Own .i64 3 w.heap.size w' v exclL ∧ Below w.heap.size w w' := by
  go_enter Try.func39, Try.ntmps39
  go_wp2_with (fail)
  go_ret
  exact ⟨_, rfl, lit_own (by first | simp | rfl) (Nat.le_refl _) rfl rfl (by decide), by (repeat (first | exact Below.refl _ _ | exact below_drewN _ | refine Below.drew ?_ | refine Below.alloc ?_ (by simp) _ | refine Below.setCell ?_ (by simp) _ | refine below_drewN' ?_ _))⟩

/-- what else is owned stays when a row of another type turns -/
theorem ownG_row {w w' : World} {base e size n : Nat} {v : Value} {cs : List Value} (h : w.ownsRow base e size v n cs) {e2 base2 : Nat} {u : Value} {l : List Rg} (ho : OwnG e2 base2 w u l) (ht : e2 ≠ e) (hg : w.grownBy w' v.ownBlock) : OwnG e2 base2 w' u l := by
  refine World.ownsRow.kept ho hg ?_
  cases hb : u.ownBlock with
  | none => exact .inl rfl
  | some c =>
    refine .inr fun hrow => ?_
    rcases h.2 with ⟨rfl, _⟩ | ⟨g, cap, cur, rfl, _, hg1, _⟩
    · simp [Value.ownBlock] at hrow
    · rcases ho.2 with ⟨rfl, _⟩ | ⟨g2, cap2, cur2, rfl, _, hg2, _⟩
      · simp [Value.ownBlock] at hb
      · simp [Value.ownBlock] at hrow hb
        subst hrow hb
        rw [hg1] at hg2
        simp at hg2
        exact ht hg2.2.symm
theorem delAt {B1 B2 g n cap base b2 b3 : Nat} {ve vc : Value} {excl : List Int} {l cls : List Rg} {w : World} (h : OwnG 43 base w (.slice (some ⟨g, 0, none⟩) n cap) l) (he : Own .i64 3 b2 w ve excl) (hc : OwnG 37 b3 w vc cls)
    (h1 : w.cell? ⟨B1, 0, none⟩ = some ve) (h2 : w.cell? ⟨B2, 0, none⟩ = some vc) (n1 : B1 ≠ g) (n2 : B2 ≠ g) : DelAt (delS excl cls) B1 B2 g w := fun wr hgr a b c => by
  have hg' : w.grownBy wr (Value.slice (some ⟨g, 0, none⟩) n cap).ownBlock := hgr
  have k1 : wr.cell? ⟨B1, 0, none⟩ = w.cell? ⟨B1, 0, none⟩ := by
    have e : wr.heap[B1]? = w.heap[B1]? := hgr.block B1 (World.block_lt_of_cell? w _ h1) (fun h => n1 (by injection h))
    simp only [World.cell?, e]
  have k2 : wr.cell? ⟨B2, 0, none⟩ = w.cell? ⟨B2, 0, none⟩ := by
    have e : wr.heap[B2]? = w.heap[B2]? := hgr.block B2 (World.block_lt_of_cell? w _ h2) (fun h => n2 (by injection h))
    simp only [World.cell?, e]
  exact ucdDel B1 B2 ve vc excl cls a b c wr (k1.trans h1) (own_row h he (by decide) hg').sl (k2.trans h2) (ownG_row h hc (by decide) hg').sg

set_option maxHeartbeats 2000000 in
theorem ucdComposed (g n cap base b2 b3 : Nat) (a2 a3 : Option Addr) (m2 c2 m3 c3 : Nat) (l cls : List Rg) (excl : List Int) (w : World) (h : OwnG 43 base w (.slice (some ⟨g, 0, none⟩) n cap) l) (he : Own .i64 3 b2 w (.slice a2 m2 c2) excl) (hc : OwnG 37 b3 w (.slice a3 m3 c3) cls) :
    Calls Try.prog 54 #[.slice (some ⟨g, 0, none⟩) n cap, .slice a2 m2 c2, .slice a3 m3 c3] w fun e w' => ∃ k, e = .returned (.slice (some ⟨g, 0, none⟩) k cap) ∧ OwnG 43 base w' (.slice (some ⟨g, 0, none⟩) k cap) (l.filter fun r => !delS excl cls r) ∧ w.grownBy w' (some g) := by
  obtain ⟨-, -, -, -, cur, hcg, -⟩ := h.block
  have hglt : g < w.heap.size := (Array.getElem?_eq_some_iff.1 hcg).1
  have hb : Below w.heap.size w ((w.alloc (.cells #[.slice a2 m2 c2] 29)).alloc (.cells #[.slice a3 m3 c3] 33)) := by (repeat (first | exact Below.refl _ _ | exact below_drewN _ | refine Below.drew ?_ | refine Below.alloc ?_ (by simp) _ | refine Below.setCell ?_ (by simp) _ | refine below_drewN' ?_ _))
  have HB := hid hb
  have HO := hid (h.below hb)
  have x1 := ((Box.made w 29 [.slice a2 m2 c2]).alloc (.cells #[.slice a3 m3 c3] 33)).cell 0
  have x2 := (box_last w (.cells #[.slice a2 m2 c2] 29) 33 [.slice a3 m3 c3]).cell 0
  simp only [List.getElem?_cons_zero] at x1 x2
  have HD := hid (delAt (h.below hb) (he.below hb) (hc.below hb) x1 x2 (by omega) (by omega))
  clear h he hc hb x1 x2 hcg
  go_enter Try.func54, Try.ntmps54
  go_wp2_with (go_at_call 60; refine (slicesDeleteFunc _ _ _ g n cap base l _ HO.out HD.out).mono ?_; rintro e w1 ⟨k, rfl, ho1, hg1⟩; have HO1 := hid ho1; have HG1 := hid hg1; clear ho1 hg1)
  go_ret
  exact ⟨k, rfl, HO1.out, grown_trans (grown_below HB.out _) HG1.out⟩

def tabPair : List Rg := tabCanon.filter fun r => !delS exclL tabClasses r
theorem canon_pos : 0 < tabCanon.length := by
  unfold tabCanon
  rw [List.length_append]
  have : 0 < canonHead.length := by decide
  omega
theorem box_other {t : TypeId} {cs : List Value} {B g : Nat} {w w' : World} (h : Box t cs B w) (hg : w.grownBy w' (some g)) (hn : B ≠ g) : Box t cs B w' := (hg.block B h.lt (fun e => hn (by injection e))).trans h
set_option maxHeartbeats 2000000 in
theorem ucdComposites (w : World) : Calls Try.prog 40 #[] w fun e w' => ∃ v, e = .returned (.agg #[v, .func (.func 55) #[] #[]]) ∧ Sg w' v tabPair ∧ Below w.heap.size w w' := by
  have h9 := store_fn Try.prog (Fn.func 55)
  have HB0 := hid (show Below w.heap.size w (w.alloc (.cells #[.slice none 0 0, .nilFunc] 52)) by (repeat (first | exact Below.refl _ _ | exact below_drewN _ | refine Below.drew ?_ | refine Below.alloc ?_ (by simp) _ | refine Below.setCell ?_ (by simp) _ | refine below_drewN' ?_ _)))
  have HX := hid (Box.made w 52 [.slice none 0 0, .nilFunc])
  have hs0 : (w.alloc (.cells #[.slice none 0 0, .nilFunc] 52)).heap.size = w.heap.size + 1 := by simp
  have HS0 := hid hs0
  clear hs0
  go_enter Try.func40, Try.ntmps40
  go_wp2_with (first
    | (go_at_call 36; refine (apiCanon _).mono ?_; rintro e w1 ⟨v1, rfl, ho1, hb1⟩; obtain ⟨g1, c1, hv1, hg1, _⟩ := World.ownsRow.form ho1 canon_pos; obtain ⟨n, hn⟩ : ∃ n, n = tabCanon.length := ⟨_, rfl⟩; rw [← hn] at hv1; subst hv1; have HO1 := hid ho1; have HB1 := hid hb1; have HX1 := hid (HX.out.below hb1 HX.out.lt); have HG1 := hid hg1; clear ho1 hb1 hn hg1)
    | (go_at_call 39; refine (apiExcludedO w1).mono ?_; rintro e w2 ⟨v2, rfl, ho2, hb2⟩; obtain ⟨a2, c2, hv2⟩ := ho2.sl.form; obtain ⟨m2, hm2⟩ : ∃ n, n = exclL.length := ⟨_, rfl⟩; rw [← hm2] at hv2; subst hv2; have HO2 := hid ho2; have HB2 := hid hb2; clear ho2 hb2 hm2)
    | (go_at_call 31; refine (apiClassesO w2).mono ?_; rintro e w3 ⟨v3, rfl, ho3, hb3⟩; obtain ⟨a3, c3, hv3⟩ := ho3.form; obtain ⟨m3, hm3⟩ : ∃ n, n = tabClasses.length := ⟨_, rfl⟩; rw [← hm3] at hv3; subst hv3; have HO3 := hid ho3; have HB3 := hid hb3; clear ho3 hb3 hm3)
    | (go_at_call 54; refine (ucdComposed g1 n c1 _ _ _ a2 a3 m2 c2 m3 c3 tabCanon tabClasses exclL w3 ((HO1.out.below HB2.out).below HB3.out) (HO2.out.below HB3.out) HO3.out).mono ?_; rintro e w4 ⟨k4, rfl, ho4, hg4⟩; have HX4 := hid (box_other ((HX1.out.below HB2.out HX1.out.lt).below HB3.out (Nat.lt_of_lt_of_le HX1.out.lt HB2.out.size)) hg4 (by have := HG1.out; have := HS0.out; omega)); have HO4 := hid ho4; have HG4 := hid hg4; clear ho4 hg4; have z0 := HX4.out.ice 0; have z1 := HX4.out.ice 1; have y0 := HX4.out.cell 0; have y1 := HX4.out.cell 1; simp only [List.getElem?_cons_zero, List.getElem?_cons_succ] at y0 y1))
  have hlt : w.heap.size < (w.alloc (.cells #[.slice none 0 0, .nilFunc] 52)).heap.size := by rw [HS0.out]; omega
  have k1 := HB0.out.trans (HB1.out.mono HB0.out.size)
  have k2 := k1.trans (HB2.out.mono k1.size)
  have k3 := k2.trans (HB3.out.mono k2.size)
  have k4 := k3.grown HG4.out k3.size (fun k hk => by injection hk with hk; have := HG1.out; have := HS0.out; omega)
  refine bodyPost_ret (results_one rfl rfl (loadT2 (HX4.out.pair _ _))) rfl ⟨_, rfl, ((HO4.out.far6 hlt 0 _).far6 hlt 1 _).sg, below_pair k4 (Nat.le_refl _)⟩

/-- what two scalars compose, and whether they do -/
def pairS (a b : Int) : Int × Bool := ((fndS (fun r => r.t == a && r.v == b) tabPair).1.f, (fndS (fun r => r.t == a && r.v == b) tabPair).2)
set_option maxHeartbeats 2000000 in
theorem ucdPair (a b : Int) (w : World) : Calls Try.prog 9 #[.int .i64 a, .int .i64 b] w fun e w' => e = .returned (.tuple #[.int .i64 (pairS a b).1, .bool (pairS a b).2]) ∧ Below w.heap.size w w' := by
  unfold pairS
  obtain ⟨R, hR⟩ : ∃ R, R = fndS (fun r => r.t == a && r.v == b) tabPair := ⟨_, rfl⟩
  rw [← hR]
  obtain ⟨⟨f, t, v⟩, ok⟩ := R
  have HF := hid (fun (w : World) (x : Value) (h : Sg w x tabPair) => (show Calls Try.prog 41 #[.agg #[x, .func (.func 55) #[] #[]], .agg #[.int .i64 a, .int .i64 b]] w fun e w' => e = .returned (.tuple #[.agg #[.int .i64 f, .int .i64 t, .int .i64 v], .bool ok]) ∧ Below w.heap.size w w' by have := ucdFind2 x tabPair a b w h; rw [← hR] at this; exact this))
  clear hR
  simp only
  go_enter Try.func9, Try.ntmps9
  go_wp2_with (first
    | (go_at_call 40; refine (ucdComposites _).mono ?_; rintro e w2 ⟨v2, rfl, hs2, hb2⟩; have HS2 := hid hs2; have HB2 := hid hb2; clear hs2 hb2)
    | (go_at_call 41; refine (HF.out w2 v2 HS2.out).mono ?_; rintro e w3 ⟨rfl, hb3⟩; have HB3 := hid (HB2.out.trans (hb3.mono HB2.out.size)); clear hb3))
  go_ret2
  exact ⟨rfl, HB3.out.alloc HB3.out.size _⟩
end Go.Proofs.Ytpdcmfnemfopjaa
