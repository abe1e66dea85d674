/- Several texts in one: Ucd10, Ucd11, CsSpec, TokSpec, TokMath, CsOk. -/
import Derived.Test.YtildhebaikeknaaGreatPk2
import Derived.Test.YtildhebaikeknaaGreatPk6
import Derived.Test.YtildhebaikeknaaGreatPk9
import Derived.Test.YtildhebaikeknaaGreatPk11
import Derived.Test.YtildhebaikeknaaGreatPk14
import Derived.Test.YtildhebaikeknaaGreatPk15
import Derived.Test.YtildhebaikeknaaGreatPk1
/-! Ucd10 -/
namespace Go.Proofs.YtildhebaikeknaaGreat
open Go.RowKit

def mapS (l : List Mp) (c : Int) : List Int := if scalarB c then (fndM c l).1.t else []
theorem mapS_t {l : List Mp} {c : Int} (h : scalarB c = true) : (fndM c l).1.t = mapS l c := by unfold mapS; rw [h]; rfl
theorem mapS_f {l : List Mp} {c : Int} (h : scalarB c = false) : [] = mapS l c := by unfold mapS; rw [h]; rfl

theorem store_fn (P : Program) (f : Fn) (a : Addr) (m : Mode) (w : World) : (store a (.func f #[] #[]) m).run P w = stored P w a (.func f #[] #[]) m := run_store P w a _ m rfl
theorem OwnG.far6 {e base : Nat} {w : World} {v : Value} {l : List Rg} (h : OwnG e base w v l) {B : Nat} (hB : B < base) (j : Nat) (u : Value) : OwnG e base (w.setCell ⟨B, j, none⟩ u) v l := by
  obtain ⟨h1, h2⟩ := h
  refine ⟨h1, ?_⟩
  rcases h2 with h2 | ⟨g, cap, cur, hv, hg, hh, r⟩
  · exact .inl h2
  · refine .inr ⟨g, cap, cur, hv, hg, ?_, r⟩
    rw [Below.heap_setCell _ _ _ _ (fun e => by simp only at e; omega)]
    exact hh
theorem ucdDecompositions (w : World) : Calls Tryz.prog 102 #[] w fun e w' => ∃ v, e = .returned (.agg #[v, .func (.func 107) #[] #[]]) ∧ Sg w' v tabCanon ∧ Below w.heap.size w w' := by
  go_enter Tryz.func102, Tryz.ntmps102
  have h9 := store_fn Tryz.prog (Fn.func 107)
  have HB0 := hid (show Below w.heap.size w (w.alloc (.cells #[.slice none 0 0, .nilFunc] 119)) by (repeat (first | exact Below.refl _ _ | exact below_drewN _ | refine Below.drew ?_ | refine Below.alloc ?_ (by simp) _ | refine Below.setCell ?_ (by simp) _ | refine below_drewN' ?_ _)))
  have HX := hid (Box.made w 119 [.slice none 0 0, .nilFunc])
  go_wp2_with (go_at_call 23; refine (apiCanon _).mono ?_; rintro e w1 ⟨v1, rfl, ho1, hb1⟩; obtain ⟨a1, c1, hv1⟩ := ho1.form; obtain ⟨n, hn⟩ : ∃ n, n = tabCanon.length := ⟨_, rfl⟩; rw [← hn] at hv1; subst hv1; have HO1 := hid ho1; have HB1 := hid (HB0.out.trans (hb1.mono HB0.out.size)); have HX1 := hid (HX.out.below hb1 HX.out.lt); clear ho1 hb1 hn; have z0 := HX1.out.ice 0; have z1 := HX1.out.ice 1; have y0 := HX1.out.cell 0; have y1 := HX1.out.cell 1; simp only [List.getElem?_cons_zero, List.getElem?_cons_succ] at y0 y1)
  have hlt : w.heap.size < (w.alloc (.cells #[.slice none 0 0, .nilFunc] 119)).heap.size := by simp
  refine bodyPost_ret (results_one rfl rfl (loadT1 (HX1.out.pair _ _))) rfl ⟨_, rfl, ((HO1.out.far6 hlt 0 _).far6 hlt 1 _).sg, below_pair HB1.out (Nat.le_refl _)⟩

/-- the canonical decomposition that a row tells -/
def rowS (r : Rg × Bool) : List Int := if r.2 then (if r.1.v == 0 then [r.1.t] else [r.1.t, r.1.v]) else []
def canonS (c : Int) : List Int := if scalarB c then rowS (fndS (fun r => r.f == c) tabCanon) else []
theorem canonS_t {c : Int} (h : scalarB c = true) : rowS (fndS (fun r => r.f == c) tabCanon) = canonS c := by unfold canonS; rw [h]; rfl
theorem canonS_f {c : Int} (h : scalarB c = false) : [] = canonS c := by unfold canonS; rw [h]; rfl

set_option maxHeartbeats 2000000 in
theorem ucdCanon (c : Int) (w : World) : Calls Tryz.prog 96 #[.int .i64 c] w fun e w' => ∃ x, e = .returned x ∧ Sl .i64 w' x (canonS c) ∧ Below w.heap.size w w' := by
  obtain ⟨b, hb⟩ : ∃ b, b = scalarB c := ⟨_, rfl⟩
  cases b with
  | false =>
    have HR := hid (canonS_f hb.symm)
    have HB := hid hb
    clear hb
    go_enter Tryz.func96, Tryz.ntmps96
    go_wp2_with (go_at_call 43; refine (ucdScalar c _).mono ?_; rw [← HB.out]; rintro e w1 ⟨rfl, rfl⟩)
    go_ret
    exact ⟨_, rfl, by rw [← HR.out]; exact sl_nil _ _, Below.refl _ _⟩
  | true =>
    have hr := canonS_t hb.symm
    have HB := hid hb
    clear hb
    obtain ⟨R, hR⟩ : ∃ R, R = fndS (fun r => r.f == c) tabCanon := ⟨_, rfl⟩
    rw [← hR] at hr
    obtain ⟨⟨f, t, v⟩, ok⟩ := R
    have HF := hid (fun (w : World) (x : Value) (h : Sg w x tabCanon) => (show Calls Tryz.prog 103 #[.agg #[x, .func (.func 107) #[] #[]], .int .i64 c] w fun e w' => e = .returned (.tuple #[.agg #[.int .i64 f, .int .i64 t, .int .i64 v], .bool ok]) ∧ Below w.heap.size w w' by have := ucdFind1 x tabCanon c w h; rw [← hR] at this; exact this))
    clear hR
    cases ok with
    | false =>
      have HR := hid (show [] = canonS c from hr)
      clear hr
      go_enter Tryz.func96, Tryz.ntmps96
      go_wp2_with (first
        | (go_at_call 43; refine (ucdScalar c _).mono ?_; rw [← HB.out]; rintro e w1 ⟨rfl, rfl⟩)
        | (go_at_call 102; refine (ucdDecompositions _).mono ?_; rintro e w2 ⟨v2, rfl, hs2, hb2⟩; have HS2 := hid hs2; have HB2 := hid hb2; clear hs2 hb2)
        | (go_at_call 103; refine (HF.out w2 v2 HS2.out).mono ?_; rintro e w3 ⟨rfl, hb3⟩; have HB3 := hid (HB2.out.trans (hb3.mono HB2.out.size)); clear hb3))
      go_ret
      exact ⟨_, rfl, by rw [← HR.out]; exact sl_nil _ _, HB3.out.alloc HB3.out.size _⟩
    | true =>
      obtain ⟨y, hy⟩ : ∃ y, y = (v == 0) := ⟨_, rfl⟩
      have hr2 : (if y then [t] else [t, v]) = canonS c := by rw [hy]; exact hr
      clear hr
      replace hy := hy.symm
      cases y with
      | true =>
        have HR := hid (show [t] = canonS c from hr2)
        clear hr2
        go_enter Tryz.func96, Tryz.ntmps96
        go_wp2_with (first
          | (go_at_call 43; refine (ucdScalar c _).mono ?_; rw [← HB.out]; rintro e w1 ⟨rfl, rfl⟩)
          | (go_at_call 102; refine (ucdDecompositions _).mono ?_; rintro e w2 ⟨v2, rfl, hs2, hb2⟩; have HS2 := hid hs2; have HB2 := hid hb2; clear hs2 hb2)
          | (go_at_call 103; refine (HF.out w2 v2 HS2.out).mono ?_; rintro e w3 ⟨rfl, hb3⟩; have HB3 := hid (HB2.out.trans (hb3.mono HB2.out.size)); clear hb3))
        go_ret
        have HB4 := HB3.out.alloc HB3.out.size (.cells #[.int .i64 f, .int .i64 t, .int .i64 v] 49)
        exact ⟨_, rfl, by rw [← HR.out]; exact lit_sl (by first | simp | rfl) rfl rfl (by simp), HB4.alloc HB4.size _⟩
      | false =>
        have HR := hid (show [t, v] = canonS c from hr2)
        clear hr2
        go_enter Tryz.func96, Tryz.ntmps96
        go_wp2_with (first
          | (go_at_call 43; refine (ucdScalar c _).mono ?_; rw [← HB.out]; rintro e w1 ⟨rfl, rfl⟩)
          | (go_at_call 102; refine (ucdDecompositions _).mono ?_; rintro e w2 ⟨v2, rfl, hs2, hb2⟩; have HS2 := hid hs2; have HB2 := hid hb2; clear hs2 hb2)
          | (go_at_call 103; refine (HF.out w2 v2 HS2.out).mono ?_; rintro e w3 ⟨rfl, hb3⟩; have HB3 := hid (HB2.out.trans (hb3.mono HB2.out.size)); clear hb3))
        go_ret
        have HB4 := HB3.out.alloc HB3.out.size (.cells #[.int .i64 f, .int .i64 t, .int .i64 v] 49)
        exact ⟨_, rfl, by rw [← HR.out]; exact lit_sl (by first | simp | rfl) rfl rfl (by simp), HB4.alloc HB4.size _⟩
end Go.Proofs.YtildhebaikeknaaGreat

/-! Ucd11 -/
namespace Go.Proofs.YtildhebaikeknaaGreat
open Go.RowKit
open Go.Great (wp_anyFrame)

theorem apiClassesO (w : World) : Calls Tryz.prog 27 #[] w fun e w' => ∃ v, e = .returned v ∧ OwnG 72 w.heap.size w' v tabClasses ∧ Below w.heap.size w w' := by
  refine calls_of_wp Tryz.func27 rfl ?_
  refine wp_anyFrame 28 (by as_aux_lemma => kernel_rfl) rfl fun a0 hs0 hd0 => ?_
  apply wp_seq_k; intro K0 hK0
  apply wp_region_lit
  refine Go.Great.wpList_readTo rfl (some 0) rfl (.slice none 0 0) rfl ?_
  apply wpList_nil
  refine hK0 _ _ ?_
  clear hK0 K0
  refine wp_anyFrame 28 (by simp only [Act.size_put, hs0]) (by simp only [Act.defers_put', hd0]) fun a1 hs1 hd1 => ?_
  apply wp_seq_k; intro K1 hK1
  apply wp_region_lit
  refine Go.Great.wpList_splitAt 26 (Go.Great.rgOps 72 "tables.go:80" .i64 1 (tri tabClasses)) (by as_aux_lemma => kernel_rfl) ?_
  refine Go.Great.wpList_rgs 72 "tables.go:80" .i64 (fun _ _ _ => by as_aux_lemma => kernel_rfl) _ 1 _ (by rw [hs1]; exact Nat.le_of_ble_eq_true (by as_aux_lemma => kernel_rfl)) fun b hb hbd hev _ => ?_
  refine Go.Great.wpList_buildRgs rfl 52 72 _ .i64 (tri tabClasses).toArray rfl 1 w.heap.size rfl (some 27) rfl (by as_aux_lemma => kernel_rfl) (by as_aux_lemma => kernel_rfl) (by as_aux_lemma => kernel_rfl) (by decide) (by decide) (by as_aux_lemma => kernel_rfl) hev ?_
  refine Go.Great.wpList_readTo rfl (some 0) rfl (.slice (some ⟨w.heap.size, 0, none⟩) 26 26) ?_ ?_
  · have := Act.eval_put_same b 27 (.slice (some ⟨w.heap.size, 0, none⟩) 26 26) (by rw [hb, hs1]; omega)
    exact congrArg (fun v => Result.ok (Next.value v) _) this
  apply wpList_nil
  refine hK1 _ _ ?_
  refine wp_ret (bodyPost_ret (results_tmp rfl _ _ _) (by simp only [Act.defers_put', hbd, hd1]) ⟨_, rfl, ?_, by (repeat (first | exact Below.refl _ _ | exact below_drewN _ | refine Below.drew ?_ | refine Below.alloc ?_ (by simp) _ | refine Below.setCell ?_ (by simp) _ | refine below_drewN' ?_ _))⟩)
  have := Act.eval_put_same (b.put (some 27) (.slice (some ⟨w.heap.size, 0, none⟩) 26 26)) 0 (.slice (some ⟨w.heap.size, 0, none⟩) 26 26) (by rw [Act.size_put, hb, hs1]; omega)
  rw [show ∀ a : Act, a.tmps.getD 0 undef = a.eval (.tmp 0) from fun _ => rfl]
  exact (congrArg (fun v => OwnG _ _ _ v tabClasses) this).mpr (ownG_made rfl (by as_aux_lemma => kernel_rfl) (Nat.le_refl _) ((tri_cells (by decide)).trans gv_tri) (by decide))


def exclL : List Int := [836, 2392, 2393, 64285, 64298, 64299]
theorem apiExcludedO (w : World) : Calls Tryz.prog 26 #[] w fun e w' => ∃ v, e = .returned v ∧ Own .i64 3 w.heap.size w' v exclL ∧ Below w.heap.size w w' := by
  go_enter Tryz.func26, Tryz.ntmps26
  go_wp2_with (fail)
  go_ret
  exact ⟨_, rfl, lit_own (by first | simp | rfl) (Nat.le_refl _) rfl rfl (by decide), by (repeat (first | exact Below.refl _ _ | exact below_drewN _ | refine Below.drew ?_ | refine Below.alloc ?_ (by simp) _ | refine Below.setCell ?_ (by simp) _ | refine below_drewN' ?_ _))⟩

/-- what else is owned stays when a row of another type turns -/
theorem ownG_row {w w' : World} {base e size n : Nat} {v : Value} {cs : List Value} (h : w.ownsRow base e size v n cs) {e2 base2 : Nat} {u : Value} {l : List Rg} (ho : OwnG e2 base2 w u l) (ht : e2 ≠ e) (hg : w.grownBy w' v.ownBlock) : OwnG e2 base2 w' u l := by
  refine World.ownsRow.kept ho hg ?_
  cases hb : u.ownBlock with
  | none => exact .inl rfl
  | some c =>
    refine .inr fun hrow => ?_
    rcases h.2 with ⟨rfl, _⟩ | ⟨g, cap, cur, rfl, _, hg1, _⟩
    · simp [Value.ownBlock] at hrow
    · rcases ho.2 with ⟨rfl, _⟩ | ⟨g2, cap2, cur2, rfl, _, hg2, _⟩
      · simp [Value.ownBlock] at hb
      · simp [Value.ownBlock] at hrow hb
        subst hrow hb
        rw [hg1] at hg2
        simp at hg2
        exact ht hg2.2.symm
theorem delAt {B1 B2 g n cap base b2 b3 : Nat} {ve vc : Value} {excl : List Int} {l cls : List Rg} {w : World} (h : OwnG 49 base w (.slice (some ⟨g, 0, none⟩) n cap) l) (he : Own .i64 3 b2 w ve excl) (hc : OwnG 72 b3 w vc cls)
    (h1 : w.cell? ⟨B1, 0, none⟩ = some ve) (h2 : w.cell? ⟨B2, 0, none⟩ = some vc) (n1 : B1 ≠ g) (n2 : B2 ≠ g) : DelAt (delS excl cls) B1 B2 g w := fun wr hgr a b c => by
  have hg' : w.grownBy wr (Value.slice (some ⟨g, 0, none⟩) n cap).ownBlock := hgr
  have k1 : wr.cell? ⟨B1, 0, none⟩ = w.cell? ⟨B1, 0, none⟩ := by
    have e : wr.heap[B1]? = w.heap[B1]? := hgr.block B1 (World.block_lt_of_cell? w _ h1) (fun h => n1 (by injection h))
    simp only [World.cell?, e]
  have k2 : wr.cell? ⟨B2, 0, none⟩ = w.cell? ⟨B2, 0, none⟩ := by
    have e : wr.heap[B2]? = w.heap[B2]? := hgr.block B2 (World.block_lt_of_cell? w _ h2) (fun h => n2 (by injection h))
    simp only [World.cell?, e]
  exact ucdDel B1 B2 ve vc excl cls a b c wr (k1.trans h1) (own_row h he (by decide) hg').sl (k2.trans h2) (ownG_row h hc (by decide) hg').sg

set_option maxHeartbeats 2000000 in
theorem ucdComposed (g n cap base b2 b3 : Nat) (a2 a3 : Option Addr) (m2 c2 m3 c3 : Nat) (l cls : List Rg) (excl : List Int) (w : World) (h : OwnG 49 base w (.slice (some ⟨g, 0, none⟩) n cap) l) (he : Own .i64 3 b2 w (.slice a2 m2 c2) excl) (hc : OwnG 72 b3 w (.slice a3 m3 c3) cls) :
    Calls Tryz.prog 108 #[.slice (some ⟨g, 0, none⟩) n cap, .slice a2 m2 c2, .slice a3 m3 c3] w fun e w' => ∃ k, e = .returned (.slice (some ⟨g, 0, none⟩) k cap) ∧ OwnG 49 base w' (.slice (some ⟨g, 0, none⟩) k cap) (l.filter fun r => !delS excl cls r) ∧ w.grownBy w' (some g) := by
  obtain ⟨-, -, -, -, cur, hcg, -⟩ := h.block
  have hglt : g < w.heap.size := (Array.getElem?_eq_some_iff.1 hcg).1
  have hb : Below w.heap.size w ((w.alloc (.cells #[.slice a2 m2 c2] 22)).alloc (.cells #[.slice a3 m3 c3] 52)) := by (repeat (first | exact Below.refl _ _ | exact below_drewN _ | refine Below.drew ?_ | refine Below.alloc ?_ (by simp) _ | refine Below.setCell ?_ (by simp) _ | refine below_drewN' ?_ _))
  have HB := hid hb
  have HO := hid (h.below hb)
  have x1 := ((Box.made w 22 [.slice a2 m2 c2]).alloc (.cells #[.slice a3 m3 c3] 52)).cell 0
  have x2 := (box_last w (.cells #[.slice a2 m2 c2] 22) 52 [.slice a3 m3 c3]).cell 0
  simp only [List.getElem?_cons_zero] at x1 x2
  have HD := hid (delAt (h.below hb) (he.below hb) (hc.below hb) x1 x2 (by omega) (by omega))
  clear h he hc hb x1 x2 hcg
  go_enter Tryz.func108, Tryz.ntmps108
  go_wp2_with (go_at_call 110; refine (slicesDeleteFunc _ _ _ g n cap base l _ HO.out HD.out).mono ?_; rintro e w1 ⟨k, rfl, ho1, hg1⟩; have HO1 := hid ho1; have HG1 := hid hg1; clear ho1 hg1)
  go_ret
  exact ⟨k, rfl, HO1.out, grown_trans (grown_below HB.out _) HG1.out⟩

def tabPair : List Rg := tabCanon.filter fun r => !delS exclL tabClasses r
theorem canon_pos : 0 < tabCanon.length := by
  unfold tabCanon
  rw [List.length_append]
  have : 0 < canonHead.length := by decide
  omega
theorem box_other {t : TypeId} {cs : List Value} {B g : Nat} {w w' : World} (h : Box t cs B w) (hg : w.grownBy w' (some g)) (hn : B ≠ g) : Box t cs B w' := (hg.block B h.lt (fun e => hn (by injection e))).trans h
set_option maxHeartbeats 2000000 in
theorem ucdComposites (w : World) : Calls Tryz.prog 104 #[] w fun e w' => ∃ v, e = .returned (.agg #[v, .func (.func 109) #[] #[]]) ∧ Sg w' v tabPair ∧ Below w.heap.size w w' := by
  have h9 := store_fn Tryz.prog (Fn.func 109)
  have HB0 := hid (show Below w.heap.size w (w.alloc (.cells #[.slice none 0 0, .nilFunc] 124)) by (repeat (first | exact Below.refl _ _ | exact below_drewN _ | refine Below.drew ?_ | refine Below.alloc ?_ (by simp) _ | refine Below.setCell ?_ (by simp) _ | refine below_drewN' ?_ _)))
  have HX := hid (Box.made w 124 [.slice none 0 0, .nilFunc])
  have hs0 : (w.alloc (.cells #[.slice none 0 0, .nilFunc] 124)).heap.size = w.heap.size + 1 := by simp
  have HS0 := hid hs0
  clear hs0
  go_enter Tryz.func104, Tryz.ntmps104
  go_wp2_with (first
    | (go_at_call 23; refine (apiCanon _).mono ?_; rintro e w1 ⟨v1, rfl, ho1, hb1⟩; obtain ⟨g1, c1, hv1, hg1, _⟩ := World.ownsRow.form ho1 canon_pos; obtain ⟨n, hn⟩ : ∃ n, n = tabCanon.length := ⟨_, rfl⟩; rw [← hn] at hv1; subst hv1; have HO1 := hid ho1; have HB1 := hid hb1; have HX1 := hid (HX.out.below hb1 HX.out.lt); have HG1 := hid hg1; clear ho1 hb1 hn hg1)
    | (go_at_call 26; refine (apiExcludedO w1).mono ?_; rintro e w2 ⟨v2, rfl, ho2, hb2⟩; obtain ⟨a2, c2, hv2⟩ := ho2.sl.form; obtain ⟨m2, hm2⟩ : ∃ n, n = exclL.length := ⟨_, rfl⟩; rw [← hm2] at hv2; subst hv2; have HO2 := hid ho2; have HB2 := hid hb2; clear ho2 hb2 hm2)
    | (go_at_call 27; refine (apiClassesO w2).mono ?_; rintro e w3 ⟨v3, rfl, ho3, hb3⟩; obtain ⟨a3, c3, hv3⟩ := ho3.form; obtain ⟨m3, hm3⟩ : ∃ n, n = tabClasses.length := ⟨_, rfl⟩; rw [← hm3] at hv3; subst hv3; have HO3 := hid ho3; have HB3 := hid hb3; clear ho3 hb3 hm3)
    | (go_at_call 108; refine (ucdComposed g1 n c1 _ _ _ a2 a3 m2 c2 m3 c3 tabCanon tabClasses exclL w3 ((HO1.out.below HB2.out).below HB3.out) (HO2.out.below HB3.out) HO3.out).mono ?_; rintro e w4 ⟨k4, rfl, ho4, hg4⟩; have HX4 := hid (box_other ((HX1.out.below HB2.out HX1.out.lt).below HB3.out (Nat.lt_of_lt_of_le HX1.out.lt HB2.out.size)) hg4 (by have := HG1.out; have := HS0.out; omega)); have HO4 := hid ho4; have HG4 := hid hg4; clear ho4 hg4; have z0 := HX4.out.ice 0; have z1 := HX4.out.ice 1; have y0 := HX4.out.cell 0; have y1 := HX4.out.cell 1; simp only [List.getElem?_cons_zero, List.getElem?_cons_succ] at y0 y1))
  have hlt : w.heap.size < (w.alloc (.cells #[.slice none 0 0, .nilFunc] 124)).heap.size := by rw [HS0.out]; omega
  have k1 := HB0.out.trans (HB1.out.mono HB0.out.size)
  have k2 := k1.trans (HB2.out.mono k1.size)
  have k3 := k2.trans (HB3.out.mono k2.size)
  have k4 := k3.grown HG4.out k3.size (fun k hk => by injection hk with hk; have := HG1.out; have := HS0.out; omega)
  refine bodyPost_ret (results_one rfl rfl (loadT2 (HX4.out.pair _ _))) rfl ⟨_, rfl, ((HO4.out.far6 hlt 0 _).far6 hlt 1 _).sg, below_pair k4 (Nat.le_refl _)⟩

/-- what two scalars compose, and whether they do -/
def pairS (a b : Int) : Int × Bool := ((fndS (fun r => r.t == a && r.v == b) tabPair).1.f, (fndS (fun r => r.t == a && r.v == b) tabPair).2)
set_option maxHeartbeats 2000000 in
theorem ucdPair (a b : Int) (w : World) : Calls Tryz.prog 99 #[.int .i64 a, .int .i64 b] w fun e w' => e = .returned (.tuple #[.int .i64 (pairS a b).1, .bool (pairS a b).2]) ∧ Below w.heap.size w w' := by
  unfold pairS
  obtain ⟨R, hR⟩ : ∃ R, R = fndS (fun r => r.t == a && r.v == b) tabPair := ⟨_, rfl⟩
  rw [← hR]
  obtain ⟨⟨f, t, v⟩, ok⟩ := R
  have HF := hid (fun (w : World) (x : Value) (h : Sg w x tabPair) => (show Calls Tryz.prog 105 #[.agg #[x, .func (.func 109) #[] #[]], .agg #[.int .i64 a, .int .i64 b]] w fun e w' => e = .returned (.tuple #[.agg #[.int .i64 f, .int .i64 t, .int .i64 v], .bool ok]) ∧ Below w.heap.size w w' by have := ucdFind2 x tabPair a b w h; rw [← hR] at this; exact this))
  clear hR
  simp only
  go_enter Tryz.func99, Tryz.ntmps99
  go_wp2_with (first
    | (go_at_call 104; refine (ucdComposites _).mono ?_; rintro e w2 ⟨v2, rfl, hs2, hb2⟩; have HS2 := hid hs2; have HB2 := hid hb2; clear hs2 hb2)
    | (go_at_call 105; refine (HF.out w2 v2 HS2.out).mono ?_; rintro e w3 ⟨rfl, hb3⟩; have HB3 := hid (HB2.out.trans (hb3.mono HB2.out.size)); clear hb3))
  go_ret2
  exact ⟨rfl, HB3.out.alloc HB3.out.size _⟩
end Go.Proofs.YtildhebaikeknaaGreat

/-! CsSpec -/
namespace Go.Proofs.YtildhebaikeknaaGreat

/-- the first one of a list of numbers -/
def fndI (p : Int → Bool) : List Int → Int × Bool
  | [] => (0, false)
  | x :: l => if p x then (x, true) else fndI p l
theorem fndI_drop {p : Int → Bool} : ∀ {l : List Int} {k : Nat}, k ≤ l.length → (∀ i, i < k → p (l.getD i 0) = false) → fndI p l = fndI p (l.drop k)
  | _, 0, _, _ => rfl
  | [], k + 1, h, _ => by simp at h
  | x :: l, k + 1, h, ha => by
    have h0 := ha 0 (by omega)
    simp only [List.getD_cons_zero] at h0
    rw [fndI, h0, List.drop_succ_cons]
    exact fndI_drop (by simpa using h) fun i hi => by simpa using ha (i + 1) (by omega)
theorem fndI_hit {p : Int → Bool} {l : List Int} {k : Nat} (h : k < l.length) (ha : ∀ i, i < k → p (l.getD i 0) = false) (hk : p (l.getD k 0) = true) : fndI p l = (l.getD k 0, true) := by
  rw [fndI_drop (by omega) ha, List.drop_eq_getElem_cons h, fndI]
  have e : l.getD k 0 = l[k] := by rw [List.getD_eq_getElem?_getD, List.getElem?_eq_getElem h]; rfl
  rw [e] at hk ⊢
  rw [if_pos hk]
theorem fndI_none {p : Int → Bool} {l : List Int} (ha : ∀ i, i < l.length → p (l.getD i 0) = false) : fndI p l = (0, false) := by
  rw [fndI_drop (Nat.le_refl _) ha, List.drop_length]
  rfl
/-- where the first one stands; -1: there is none -/
def ixS (p : Rg → Bool) : List Rg → Int
  | [] => -1
  | r :: l => if p r then 0 else if ixS p l < 0 then -1 else ixS p l + 1
theorem ixS_drop {p : Rg → Bool} : ∀ {l : List Rg} {k : Nat}, k ≤ l.length → (∀ i, i < k → p (l.getD i noRg) = false) → ixS p l = if ixS p (l.drop k) < 0 then -1 else ixS p (l.drop k) + k
  | [], 0, _, _ => by simp [ixS]
  | r :: l, 0, _, _ => by
    simp only [List.drop_zero]
    unfold ixS
    by_cases h : p r = true
    · rw [if_pos h]; simp
    · rw [if_neg h]
      by_cases h2 : ixS p l < 0
      · rw [if_pos h2]; simp
      · rw [if_neg h2, if_neg (by omega)]; omega
  | [], k + 1, h, _ => by simp at h
  | r :: l, k + 1, h, ha => by
    have h0 := ha 0 (by omega)
    simp only [List.getD_cons_zero] at h0
    have ih := ixS_drop (p := p) (l := l) (k := k) (by simpa using h) fun i hi => by simpa using ha (i + 1) (by omega)
    rw [ixS, h0, List.drop_succ_cons, ih]
    simp only [Bool.false_eq_true, if_false]
    by_cases h2 : ixS p (l.drop k) < 0
    · rw [if_pos h2]; simp; omega
    · rw [if_neg h2, if_neg (by omega)]; omega
theorem ixS_hit {p : Rg → Bool} {l : List Rg} {k : Nat} (h : k < l.length) (ha : ∀ i, i < k → p (l.getD i noRg) = false) (hk : p (l.getD k noRg) = true) : ixS p l = k := by
  rw [ixS_drop (by omega) ha, List.drop_eq_getElem_cons h, ixS]
  have e : l.getD k noRg = l[k] := by rw [List.getD_eq_getElem?_getD, List.getElem?_eq_getElem h]; rfl
  rw [e] at hk
  rw [if_pos hk]
  simp
theorem ixS_none {p : Rg → Bool} {l : List Rg} (ha : ∀ i, i < l.length → p (l.getD i noRg) = false) : ixS p l = -1 := by
  rw [ixS_drop (Nat.le_refl _) ha, List.drop_length]
  rfl
theorem first_or {p : Rg → Bool} : ∀ (l : List Rg), (∃ k, k < l.length ∧ (∀ i, i < k → p (l.getD i noRg) = false) ∧ p (l.getD k noRg) = true) ∨ ∀ i, i < l.length → p (l.getD i noRg) = false
  | [] => .inr fun i hi => by simp at hi
  | r :: l => by
    by_cases h : p r = true
    · exact .inl ⟨0, by simp, fun i hi => by omega, by simpa using h⟩
    · rcases first_or (p := p) l with ⟨k, h1, h2, h3⟩ | h2
      · refine .inl ⟨k + 1, by simpa using h1, fun i hi => ?_, by simpa using h3⟩
        cases i with
        | zero => simpa using h
        | succ i => simpa using h2 i (by omega)
      · refine .inr fun i hi => ?_
        cases i with
        | zero => simpa using h
        | succ i => simpa using h2 i (by simpa using hi)
def getS16 (set place : Int) : Int × Bool := ((fndS (fun r => r.f == set && r.t == place) tabCodes).1.v, (fndS (fun r => r.f == set && r.t == place) tabCodes).2)
def findS16 (set c : Int) : Int × Bool := ((fndS (fun r => r.f == set && r.v == c) tabCodes).1.t, (fndS (fun r => r.f == set && r.v == c) tabCodes).2)
def finB (final : Int) (wide : Bool) (s : Int) : Bool := final != 0 && (finalS s == final && (s == 87) == wide)
def byFinS (final : Int) (wide : Bool) : Int × Bool := fndI (finB final wide) (tabSets ++ [103])
def markS (place : Int) : Int × Int × Bool := ((fndS (fun r => r.f == place) tabAccents).1.t, (fndS (fun r => r.f == place) tabAccents).1.v, (fndS (fun r => r.f == place) tabAccents).2)
def letB (c : Int) : Bool := decide ((65 ≤ c ∧ c ≤ 90) ∨ (97 ≤ c ∧ c ≤ 122))
def accTwo (c : Int) (l : List Int) : Int × Int × Bool :=
  if l.length = 2 ∧ letB (l.getD 0 0) = true then
    (if (pairS (l.getD 0 0) (l.getD 1 0)).2 && (pairS (l.getD 0 0) (l.getD 1 0)).1 == c then
      (if (fndS (fun r => r.t == l.getD 1 0) tabAccents).2 then ((fndS (fun r => r.t == l.getD 1 0) tabAccents).1.f, l.getD 0 0, true) else (0, 0, false)) else (0, 0, false)) else (0, 0, false)
def accS (c : Int) : Int × Int × Bool :=
  if (fndS (fun r => r.v == c) tabAccents).2 then ((fndS (fun r => r.v == c) tabAccents).1.f, 32, true) else accTwo c (canonS c)
end Go.Proofs.YtildhebaikeknaaGreat

/-! TokSpec -/
namespace Go.Proofs.YtildhebaikeknaaGreat

/-- the state of a reader: the four designated sets; which one is on the left, which one on the right -/
structure Rd where
  g : List Int
  left : Nat
  right : Nat
def rd0 : Rd := ⟨[102, 0, 103, 0], 0, 2⟩
/-- what is subtracted from a byte of this side -/
def sdS (c : Int) : Int := if 128 ≤ c then 128 else 0
/-- a character of a set: its token and how many bytes it has, or an error -/
def plS (set : Int) : List Int → ((Int × Int) × Nat) ⊕ Int
  | [] => .inr 2
  | c :: r =>
    if 33 ≤ c - sdS c ∧ c - sdS c ≤ 126 then
      (if set = 0 then .inr 12
      else if set ≠ 87 then .inl ((set, c - sdS c), 1)
      else match r with
        | [] => .inr 2
        | d :: _ => if 33 ≤ d - sdS c ∧ d - sdS c ≤ 126 then .inl ((set, 256 * (c - sdS c) + (d - sdS c)), 2) else .inr 11)
    else .inr 11
/-- what stands behind 1B: the state then, how many bytes; or an error -/
def esS (st : Rd) : List Int → (Rd × Nat) ⊕ Int
  | [] => .inr 2
  | c :: r =>
    if 40 ≤ c ∧ c ≤ 43 then
      (match r with
      | [] => .inr 2
      | f :: _ => if (byFinS f false).2 then .inl (⟨st.g.set (c - 40).toNat (byFinS f false).1, st.left, st.right⟩, 2) else .inr 12)
    else if c = 36 then
      (match r with
      | [] => .inr 2
      | h :: q => if 40 ≤ h ∧ h ≤ 43 then
          (match q with
          | [] => .inr 2
          | f :: _ => if (byFinS f true).2 then .inl (⟨st.g.set (h - 40).toNat (byFinS f true).1, st.left, st.right⟩, 3) else .inr 12)
        else .inr 11)
    else if c = 33 ∨ c = 34 then
      (match r with
      | [] => .inr 2
      | h :: _ => if (c = 33 ∧ h = 69) ∨ (c = 34 ∧ h = 72) then .inl (st, 2) else .inr 11)
    else if c = 110 ∨ c = 111 then .inl (⟨st.g, (c - 108).toNat, st.right⟩, 1)
    else if 124 ≤ c ∧ c ≤ 126 then .inl (⟨st.g, st.left, (127 - c).toNat⟩, 1)
    else .inr 11
/-- one token, shift or escape sequence: the tokens, how many bytes, the state then; or an error -/
def tkS (st : Rd) : List Int → (List (Int × Int) × Nat × Rd) ⊕ Int
  | [] => .inr 2
  | c :: r =>
    if c = 32 ∨ c = 8 ∨ c = 10 ∨ c = 12 ∨ c = 13 then .inl ([(0, c)], 1, st)
    else if c = 14 ∨ c = 15 then .inl ([], 1, ⟨st.g, (15 - c).toNat, st.right⟩)
    else if c = 27 then (match esS st r with | .inl (s, n) => .inl ([], n + 1, s) | .inr e => .inr e)
    else if c = 25 ∨ c = 29 then (match plS (st.g.getD (if c = 29 then 3 else 2) 0) r with | .inl (t, n) => .inl ([t], n + 1, st) | .inr e => .inr e)
    else if (33 ≤ c ∧ c ≤ 126) ∨ (161 ≤ c ∧ c ≤ 254) then (match plS (st.g.getD (if 126 < c then st.right else st.left) 0) (c :: r) with | .inl (t, n) => .inl ([t], n, st) | .inr e => .inr e)
    else .inr 11
/-- so many steps at most: the tokens and the state then; or where it fails and how -/
def tkF : Nat → Rd → List Int → (List (Int × Int) × Rd) ⊕ (Nat × Int)
  | 0, st, _ => .inl ([], st)
  | _ + 1, st, [] => .inl ([], st)
  | f + 1, st, c :: r =>
    match tkS st (c :: r) with
    | .inr e => .inr (0, e)
    | .inl (ts, n, s) =>
      match tkF f s ((c :: r).drop n) with
      | .inl (l, z) => .inl (ts ++ l, z)
      | .inr (i, e) => .inr (n + i, e)
/-- the tokens of bytes, or where they fail and how -/
def tokS (b : List Int) : List (Int × Int) ⊕ (Nat × Int) :=
  match tkF b.length rd0 b with
  | .inl (l, _) => .inl l
  | .inr x => .inr x

theorem pl_ext {set : Int} {b : List Int} (m : List Int) (h : plS set b ≠ .inr 2) : plS set (b ++ m) = plS set b := by
  match b with
  | [] => exact absurd rfl h
  | [c] =>
    revert h
    simp only [plS, List.cons_append, List.nil_append]
    repeat' split
    all_goals (intro h; first | rfl | exact absurd rfl h)
  | c :: d :: r => simp only [plS, List.cons_append]
theorem pl_ok {set : Int} {b : List Int} {t : Int × Int} {n : Nat} (h : plS set b = .inl (t, n)) : 0 < n ∧ n ≤ b.length := by
  match b with
  | [] => cases h
  | [c] =>
    revert h
    simp only [plS]
    repeat' split
    all_goals (intro h; first | (cases h; done) | (injection h with h; injection h with _ h; subst h; simp))
  | c :: d :: r =>
    revert h
    simp only [plS]
    repeat' split
    all_goals (intro h; first | (cases h; done) | (injection h with h; injection h with _ h; subst h; simp))
theorem pl_take {set : Int} {b : List Int} {t : Int × Int} {n k : Nat} (h : plS set b = .inl (t, n)) (hk : n ≤ k) : plS set (b.take k) = .inl (t, n) := by
  have hn := pl_ok h
  match b, k with
  | [], _ => cases h
  | _, 0 => omega
  | [c], k + 1 => simpa using h
  | c :: d :: r, 1 =>
    revert h
    simp only [plS, List.take_succ_cons, List.take_zero]
    repeat' split
    all_goals (intro h; first | (cases h; done) | exact h | (injection h with h; injection h with _ h; omega))
  | c :: d :: r, k + 2 =>
    revert h
    simp only [plS, List.take_succ_cons]
    exact id
theorem es_ext {st : Rd} {b : List Int} (m : List Int) (h : esS st b ≠ .inr 2) : esS st (b ++ m) = esS st b := by
  match b with
  | [] => exact absurd rfl h
  | [c] =>
    revert h
    simp only [esS, List.cons_append, List.nil_append]
    repeat' split
    all_goals (intro h; first | rfl | exact absurd rfl h)
  | [c, d] =>
    revert h
    simp only [esS, List.cons_append, List.nil_append]
    repeat' split
    all_goals (intro h; first | rfl | exact absurd rfl h)
  | c :: d :: e :: r => simp only [esS, List.cons_append]
theorem es_ok {st s : Rd} {b : List Int} {n : Nat} (h : esS st b = .inl (s, n)) : 0 < n ∧ n ≤ b.length := by
  match b with
  | [] => cases h
  | [c] =>
    revert h
    simp only [esS]
    repeat' split
    all_goals (intro h; first | (cases h; done) | (injection h with h; injection h with _ h; subst h; simp))
  | [c, d] =>
    revert h
    simp only [esS]
    repeat' split
    all_goals (intro h; first | (cases h; done) | (injection h with h; injection h with _ h; subst h; simp))
  | c :: d :: e :: r =>
    revert h
    simp only [esS]
    repeat' split
    all_goals (intro h; first | (cases h; done) | (injection h with h; injection h with _ h; subst h; simp))
theorem es_take {st s : Rd} {b : List Int} {n k : Nat} (h : esS st b = .inl (s, n)) (hk : n ≤ k) : esS st (b.take k) = .inl (s, n) := by
  have hn := es_ok h
  by_cases hkb : b.length ≤ k
  · rwa [List.take_of_length_le hkb]
  · have e : esS st (b.take k ++ b.drop k) = .inl (s, n) := by rwa [List.take_append_drop]
    match b, k with
    | [], _ => cases h
    | _, 0 => omega
    | [c], _ + 1 => simp at hkb
    | [c, d], 1 =>
      revert h
      simp only [esS, List.take_succ_cons, List.take_zero]
      repeat' split
      all_goals (intro h; first | (cases h; done) | exact h | (injection h with h; injection h with _ h; omega))
    | c :: d :: f :: r, 1 =>
      revert h
      simp only [esS, List.take_succ_cons, List.take_zero]
      repeat' split
      all_goals (intro h; first | (cases h; done) | exact h | (injection h with h; injection h with _ h; omega))
    | [c, d], k + 2 => simp at hkb
    | c :: d :: f :: r, 2 =>
      revert h
      simp only [esS, List.take_succ_cons, List.take_zero]
      repeat' split
      all_goals (intro h; first | (cases h; done) | exact h | (injection h with h; injection h with _ h; omega))
    | c :: d :: f :: r, k + 3 =>
      revert h
      simp only [esS, List.take_succ_cons]
      exact id
end Go.Proofs.YtildhebaikeknaaGreat

/-! TokMath -/
namespace Go.Proofs.YtildhebaikeknaaGreat

theorem tk_ext {st : Rd} {b : List Int} (m : List Int) (h : tkS st b ≠ .inr 2) : tkS st (b ++ m) = tkS st b := by
  match b with
  | [] => exact absurd rfl h
  | c :: r =>
    revert h
    simp only [tkS, List.cons_append]
    split
    · intro _; rfl
    split
    · intro _; rfl
    split
    · intro h
      have : esS st r ≠ .inr 2 := fun e => by rw [e] at h; exact h rfl
      rw [es_ext m this]
    split
    · intro h
      have : plS (st.g.getD (if c = 29 then 3 else 2) 0) r ≠ .inr 2 := fun e => by rw [e] at h; exact h rfl
      rw [pl_ext m this]
    split
    · intro h
      have : plS (st.g.getD (if 126 < c then st.right else st.left) 0) (c :: r) ≠ .inr 2 := fun e => by rw [e] at h; exact h rfl
      have e := pl_ext m this
      rw [List.cons_append] at e
      rw [e]
    · intro _; rfl
theorem tk_ok {st s : Rd} {b : List Int} {ts : List (Int × Int)} {n : Nat} (h : tkS st b = .inl (ts, n, s)) : 0 < n ∧ n ≤ b.length := by
  match b with
  | [] => cases h
  | c :: r =>
    revert h
    simp only [tkS, List.length_cons]
    split
    · intro h; cases h; omega
    split
    · intro h; cases h; omega
    split
    · cases he : esS st r with
      | inl x => obtain ⟨s', n'⟩ := x; have := es_ok he; intro h; cases h; omega
      | inr e => intro h; cases h
    split
    · cases he : plS (st.g.getD (if c = 29 then 3 else 2) 0) r with
      | inl x => obtain ⟨t, n'⟩ := x; have := pl_ok he; intro h; cases h; omega
      | inr e => intro h; cases h
    split
    · cases he : plS (st.g.getD (if 126 < c then st.right else st.left) 0) (c :: r) with
      | inl x => obtain ⟨t, n'⟩ := x; have := pl_ok he; intro h; cases h; simpa using this
      | inr e => intro h; cases h
    · intro h; cases h
theorem tk_take {st s : Rd} {b : List Int} {ts : List (Int × Int)} {n k : Nat} (h : tkS st b = .inl (ts, n, s)) (hk : n ≤ k) : tkS st (b.take k) = .inl (ts, n, s) := by
  have hn := tk_ok h
  match b, k with
  | [], _ => cases h
  | _, 0 => omega
  | c :: r, k + 1 =>
    rw [List.take_succ_cons]
    revert h
    simp only [tkS]
    split
    · exact id
    split
    · exact id
    split
    · cases he : esS st r with
      | inl x =>
        obtain ⟨s', n'⟩ := x
        intro h
        injection h with h
        simp only [Prod.mk.injEq] at h
        rw [es_take he (show n' ≤ k by omega)]
        simp only [h]
      | inr e => intro h; cases h
    split
    · cases he : plS (st.g.getD (if c = 29 then 3 else 2) 0) r with
      | inl x =>
        obtain ⟨t, n'⟩ := x
        intro h
        injection h with h
        simp only [Prod.mk.injEq] at h
        rw [pl_take he (show n' ≤ k by omega)]
        simp only [h]
      | inr e => intro h; cases h
    split
    · cases he : plS (st.g.getD (if 126 < c then st.right else st.left) 0) (c :: r) with
      | inl x =>
        obtain ⟨t, n'⟩ := x
        intro h
        injection h with h
        simp only [Prod.mk.injEq] at h
        have := pl_take he (show n' ≤ k + 1 by omega)
        rw [List.take_succ_cons] at this
        rw [this]
        simp only [h]
      | inr e => intro h; cases h
    · intro h; cases h
/-- cut short within it -/
theorem tk_short {st s : Rd} {b : List Int} {ts : List (Int × Int)} {n k : Nat} (h : tkS st b = .inl (ts, n, s)) (hk : k < n) : tkS st (b.take k) = .inr 2 := by
  apply Classical.byContradiction
  intro hne
  have hn := tk_ok h
  have e := tk_ext (b.drop k) hne
  rw [List.take_append_drop, h] at e
  have := (tk_ok e.symm).2
  rw [List.length_take] at this
  omega
theorem tkF_nil (f : Nat) (st : Rd) : tkF f st [] = .inl ([], st) := by cases f <;> rfl
theorem tkF_step {f : Nat} {st : Rd} {b : List Int} (hb : b ≠ []) : tkF (f + 1) st b =
    match tkS st b with
    | .inr e => .inr (0, e)
    | .inl (ts, n, s) =>
      match tkF f s (b.drop n) with
      | .inl (l, z) => .inl (ts ++ l, z)
      | .inr (i, e) => .inr (n + i, e) := by
  match b with
  | [] => exact absurd rfl hb
  | c :: r => rfl
/-- more steps than bytes change nothing -/
theorem tkF_fuel : ∀ (f f' : Nat) (st : Rd) (b : List Int), b.length ≤ f → b.length ≤ f' → tkF f st b = tkF f' st b
  | 0, f', st, b, h, _ => by
    obtain rfl : b = [] := List.eq_nil_of_length_eq_zero (by omega)
    rw [tkF_nil, tkF_nil]
  | f + 1, 0, st, b, _, h => by
    obtain rfl : b = [] := List.eq_nil_of_length_eq_zero (by omega)
    rw [tkF_nil, tkF_nil]
  | f + 1, f' + 1, st, b, h, h' => by
    by_cases hb : b = []
    · rw [hb, tkF_nil, tkF_nil]
    · rw [tkF_step hb, tkF_step hb]
      cases ht : tkS st b with
      | inr e => rfl
      | inl x =>
        obtain ⟨ts, n, s⟩ := x
        have hn := tk_ok ht
        simp only
        rw [tkF_fuel f f' s (b.drop n) (by rw [List.length_drop]; omega) (by rw [List.length_drop]; omega)]
/-- what is read is read ahead of anything -/
theorem tkF_app : ∀ (f : Nat) (st s : Rd) (a b : List Int) (l : List (Int × Int)), a.length ≤ f → tkF f st a = .inl (l, s) → ∀ f', (a ++ b).length ≤ f' →
    tkF f' st (a ++ b) = match tkF f' s b with | .inl (m, z) => .inl (l ++ m, z) | .inr (i, e) => .inr (a.length + i, e)
  | 0, st, s, a, b, l, ha, h, f', hf => by
    obtain rfl : a = [] := List.eq_nil_of_length_eq_zero (by omega)
    rw [tkF_nil] at h
    cases h
    rw [List.nil_append]
    cases tkF f' st b with
    | inl x => rfl
    | inr x => obtain ⟨i, e⟩ := x; simp
  | f + 1, st, s, a, b, l, ha, h, f', hf => by
    by_cases hb : a = []
    · subst hb
      rw [tkF_nil] at h
      cases h
      rw [List.nil_append]
      cases tkF f' st b with
      | inl x => rfl
      | inr x => obtain ⟨i, e⟩ := x; simp
    · rw [tkF_step hb] at h
      cases ht : tkS st a with
      | inr e => rw [ht] at h; cases h
      | inl x =>
        obtain ⟨ts, n, z⟩ := x
        rw [ht] at h
        simp only at h
        have hn := tk_ok ht
        cases hr : tkF f z (a.drop n) with
        | inr x => rw [hr] at h; cases h
        | inl x =>
          obtain ⟨l', z'⟩ := x
          rw [hr] at h
          injection h with h
          simp only [Prod.mk.injEq] at h
          obtain ⟨rfl, rfl⟩ := h
          rw [List.length_append] at hf
          obtain ⟨g, rfl⟩ : ∃ g, f' = g + 1 := ⟨f' - 1, by omega⟩
          have hab : a ++ b ≠ [] := by simp [hb]
          rw [tkF_step hab, tk_ext b (by rw [ht]; simp), ht]
          simp only
          have hd : (a ++ b).drop n = a.drop n ++ b := List.drop_append_of_le_length hn.2
          rw [hd, tkF_app f z z' (a.drop n) b l' (by rw [List.length_drop]; omega) hr g (by rw [List.length_append, List.length_drop]; omega), tkF_fuel (g + 1) g z' b (by omega) (by omega)]
          cases tkF g z' b with
          | inl x => obtain ⟨m, y⟩ := x; simp [List.append_assoc]
          | inr x => obtain ⟨i, e⟩ := x; simp only [List.length_drop, Sum.inr.injEq, Prod.mk.injEq, and_true]; omega
/-- a part of what is read is read as far, or is short -/
theorem tkF_take : ∀ (f : Nat) (st s : Rd) (b : List Int) (l : List (Int × Int)) (k : Nat), b.length ≤ f → tkF f st b = .inl (l, s) → ∀ f', k ≤ f' → k ≤ b.length →
    (∃ m z, tkF f' st (b.take k) = .inl (m, z) ∧ m.length ≤ l.length ∧ l.take m.length = m) ∨ ∃ i, tkF f' st (b.take k) = .inr (i, 2) ∧ i < k
  | 0, st, s, b, l, k, hb, h, f', hf, hk => by
    obtain rfl : b = [] := List.eq_nil_of_length_eq_zero (by omega)
    rw [List.take_nil, tkF_nil]
    exact .inl ⟨[], st, rfl, by simp, by simp⟩
  | f + 1, st, s, b, l, k, hb, h, f', hf, hk => by
    by_cases hk0 : k = 0
    · subst hk0
      rw [List.take_zero, tkF_nil]
      exact .inl ⟨[], st, rfl, by simp, by simp⟩
    · have hbn : b ≠ [] := fun e => by rw [e] at hk; simp at hk; omega
      have htn : b.take k ≠ [] := fun e => by have := congrArg List.length e; rw [List.length_take, List.length_nil] at this; omega
      rw [tkF_step hbn] at h
      obtain ⟨g, rfl⟩ : ∃ g, f' = g + 1 := ⟨f' - 1, by omega⟩
      cases ht : tkS st b with
      | inr e => rw [ht] at h; cases h
      | inl x =>
        obtain ⟨ts, n, z⟩ := x
        rw [ht] at h
        simp only at h
        have hn := tk_ok ht
        cases hr : tkF f z (b.drop n) with
        | inr x => rw [hr] at h; cases h
        | inl x =>
          obtain ⟨l', z'⟩ := x
          rw [hr] at h
          injection h with h
          simp only [Prod.mk.injEq] at h
          obtain ⟨rfl, rfl⟩ := h
          rw [tkF_step htn]
          by_cases hkn : n ≤ k
          · rw [tk_take ht hkn]
            simp only
            have hd : (b.take k).drop n = (b.drop n).take (k - n) := List.drop_take
            rw [hd]
            rcases tkF_take f z z' (b.drop n) l' (k - n) (by rw [List.length_drop]; omega) hr g (by omega) (by rw [List.length_drop]; omega) with ⟨m, y, h1, h2, h3⟩ | ⟨i, h1, h2⟩
            · rw [h1]
              refine .inl ⟨ts ++ m, y, rfl, by simp; omega, ?_⟩
              rw [List.length_append, List.take_append, List.take_of_length_le (by omega), Nat.add_sub_cancel_left, h3]
            · rw [h1]
              exact .inr ⟨n + i, rfl, by omega⟩
          · rw [tk_short ht (by omega)]
            exact .inr ⟨0, rfl, by omega⟩
/-- what is refused is refused whatever stands behind -/
theorem tkF_more : ∀ (f : Nat) (st : Rd) (b m : List Int) (i : Nat) (e : Int), b.length ≤ f → tkF f st b = .inr (i, e) → e ≠ 2 → ∀ f', (b ++ m).length ≤ f' → tkF f' st (b ++ m) = .inr (i, e)
  | 0, st, b, m, i, e, hb, h, _, _, _ => by
    obtain rfl : b = [] := List.eq_nil_of_length_eq_zero (by omega)
    rw [tkF_nil] at h
    cases h
  | f + 1, st, b, m, i, e, hb, h, he, f', hf => by
    by_cases hbn : b = []
    · rw [hbn, tkF_nil] at h
      cases h
    · have hab : b ++ m ≠ [] := by simp [hbn]
      rw [List.length_append] at hf
      obtain ⟨g, rfl⟩ : ∃ g, f' = g + 1 := ⟨f' - 1, by have := List.length_pos_iff.2 hbn; omega⟩
      rw [tkF_step hbn] at h
      rw [tkF_step hab]
      cases ht : tkS st b with
      | inr e' =>
        rw [ht] at h
        injection h with h
        simp only [Prod.mk.injEq] at h
        obtain ⟨rfl, rfl⟩ := h
        rw [tk_ext m (by rw [ht]; intro e; injection e with e; exact he e), ht]
      | inl x =>
        obtain ⟨ts, n, z⟩ := x
        rw [ht] at h
        simp only at h
        have hn := tk_ok ht
        rw [tk_ext m (by rw [ht]; simp), ht]
        simp only
        cases hr : tkF f z (b.drop n) with
        | inl x => obtain ⟨l', z'⟩ := x; rw [hr] at h; cases h
        | inr x =>
          obtain ⟨i', e'⟩ := x
          rw [hr] at h
          injection h with h
          simp only [Prod.mk.injEq] at h
          obtain ⟨rfl, rfl⟩ := h
          have hd : (b ++ m).drop n = b.drop n ++ m := List.drop_append_of_le_length hn.2
          rw [hd, tkF_more f z (b.drop n) m i' e' (by rw [List.length_drop]; omega) hr he g (by rw [List.length_append, List.length_drop]; omega)]
theorem tkF_at : ∀ (f : Nat) (st : Rd) (b : List Int) (i : Nat) (e : Int), b.length ≤ f → tkF f st b = .inr (i, e) → i < b.length
  | 0, st, b, i, e, hb, h => by
    obtain rfl : b = [] := List.eq_nil_of_length_eq_zero (by omega)
    rw [tkF_nil] at h
    cases h
  | f + 1, st, b, i, e, hb, h => by
    by_cases hbn : b = []
    · rw [hbn, tkF_nil] at h
      cases h
    · have h0 := List.length_pos_iff.2 hbn
      rw [tkF_step hbn] at h
      cases ht : tkS st b with
      | inr e' =>
        rw [ht] at h
        injection h with h
        simp only [Prod.mk.injEq] at h
        omega
      | inl x =>
        obtain ⟨ts, n, z⟩ := x
        rw [ht] at h
        simp only at h
        have hn := tk_ok ht
        cases hr : tkF f z (b.drop n) with
        | inl x => obtain ⟨l', z'⟩ := x; rw [hr] at h; cases h
        | inr x =>
          obtain ⟨i', e'⟩ := x
          rw [hr] at h
          injection h with h
          simp only [Prod.mk.injEq] at h
          have := tkF_at f z (b.drop n) i' e' (by rw [List.length_drop]; omega) hr
          rw [List.length_drop] at this
          omega
end Go.Proofs.YtildhebaikeknaaGreat

/-! CsOk -/
namespace Go.Proofs.YtildhebaikeknaaGreat
open Go.RowKit

def CWideOk : Prop := ∀ (s : Int) (w : World), Calls Tryz.prog 81 #[.int .i64 s] w fun e w' => e = .returned (.bool (s == 87)) ∧ Below w.heap.size w w'
def CFindOk : Prop := ∀ (s c : Int) (w : World), inI s = true → inI c = true → Calls Tryz.prog 66 #[.int .i64 s, .int .i64 c] w fun e w' => e = .returned (.tuple #[.int .i64 (findS16 s c).1, .bool (findS16 s c).2]) ∧ Below w.heap.size w w'
def CAccentOk : Prop := ∀ (c : Int) (w : World), inI c = true → Calls Tryz.prog 68 #[.int .i64 c] w fun e w' => e = .returned (.tuple #[.int .i64 (accS c).1, .int .i64 (accS c).2.1, .bool (accS c).2.2]) ∧ Below w.heap.size w w'
theorem w16_acc : accS 192 = (65, 65, true) := by decide +kernel
theorem w16_get : getS16 144 48 = (1040, true) := by decide +kernel
theorem w16_find : findS16 126 913 = (65, true) := by decide +kernel
theorem w16_fin : byFinS 70 false = (126, true) := by decide +kernel

end Go.Proofs.YtildhebaikeknaaGreat
