/- Several texts in one: Ucd10, Ucd11, Ref6b, Ref6c, Ref8, CsSpec. -/
import Derived.Test.YtidjjaginindoaaGreatPk2
import Derived.Test.YtidjjaginindoaaGreatPk4
import Derived.Test.YtidjjaginindoaaGreatPk8
import Derived.Test.YtidjjaginindoaaGreatPk9
import Derived.Test.YtidjjaginindoaaGreatPk6
import Derived.Test.YtidjjaginindoaaGreatPk3
import Derived.Test.YtidjjaginindoaaGreatPk1
import Derived.Test.YtidjjaginindoaaGreatPk11
/-! Ucd10 -/
namespace Go.Proofs.YtidjjaginindoaaGreat
open Go.RowKit

def mapS (l : List Mp) (c : Int) : List Int := if scalarB c then (fndM c l).1.t else []
theorem mapS_t {l : List Mp} {c : Int} (h : scalarB c = true) : (fndM c l).1.t = mapS l c := by unfold mapS; rw [h]; rfl
theorem mapS_f {l : List Mp} {c : Int} (h : scalarB c = false) : [] = mapS l c := by unfold mapS; rw [h]; rfl

theorem store_fn (P : Program) (f : Fn) (a : Addr) (m : Mode) (w : World) : (store a (.func f #[] #[]) m).run P w = stored P w a (.func f #[] #[]) m := run_store P w a _ m rfl
theorem ucdMappings (a : Option Addr) (n cap : Nat) (w : World) : Calls Tryz.prog 137 #[.slice a n cap] w fun e w' => e = .returned (.agg #[.slice a n cap, .func (.func 143) #[] #[]]) ∧ Below w.heap.size w w' := by
  have h9 := store_fn Tryz.prog (Fn.func 143)
  go_enter Tryz.func137, Tryz.ntmps137
  go_wp2_with (fail)
  refine bodyPost_ret (results_one rfl rfl (loadT3 (Box.made _ _ _))) rfl ⟨rfl, by (repeat (first | exact Below.refl _ _ | exact below_drewN _ | refine Below.drew ?_ | refine Below.alloc ?_ (by simp) _ | refine Below.setCell ?_ (by simp) _ | refine below_drewN' ?_ _))⟩

set_option maxHeartbeats 1000000 in
theorem ucdMapped (v : Value) (l : List Mp) (c : Int) (w : World) (h : Sm w v l) : Calls Tryz.prog 133 #[v, .int .i64 c] w fun e w' => ∃ x, e = .returned x ∧ Sl .i64 w' x (mapS l c) ∧ Below w.heap.size w w' := by
  have HS := hid h
  obtain ⟨av, cv, hv⟩ := h.form
  obtain ⟨n, hn⟩ : ∃ n, n = l.length := ⟨_, rfl⟩
  rw [← hn] at hv
  subst hv
  clear hn h
  obtain ⟨b, hb⟩ : ∃ b, b = scalarB c := ⟨_, rfl⟩
  cases b with
  | false =>
    have HR := hid (mapS_f (l := l) hb.symm)
    have HB := hid hb
    clear hb
    go_enter Tryz.func133, Tryz.ntmps133
    go_wp2_with (go_at_call 52; refine (ucdScalar c _).mono ?_; rw [← HB.out]; rintro e w1 ⟨rfl, rfl⟩)
    go_ret
    exact ⟨_, rfl, by rw [← HR.out]; exact sl_nil _ _, Below.refl _ _⟩
  | true =>
    have HR := hid (mapS_t (l := l) hb.symm)
    have HB := hid hb
    clear hb
    go_enter Tryz.func133, Tryz.ntmps133
    go_wp2_with (first
      | (go_at_call 52; refine (ucdScalar c _).mono ?_; rw [← HB.out]; rintro e w1 ⟨rfl, rfl⟩)
      | (go_at_call 137; refine (ucdMappings av n cv _).mono ?_; rintro e w2 ⟨rfl, hb2⟩; have HB2 := hid hb2; clear hb2)
      | (go_at_call 138; refine (ucdFindM (.slice av n cv) l c w2 (HS.out.below HB2.out)).mono ?_; rw [HR.out]; rintro e w3 ⟨x3, rfl, hs3, hb3⟩; have HS3 := hid hs3; have HB3 := hid (HB2.out.trans (hb3.mono HB2.out.size)); obtain ⟨a3, c3, hx3⟩ := hs3.form; obtain ⟨n3, hn3⟩ : ∃ n3, n3 = (mapS l c).length := ⟨_, rfl⟩; rw [← hn3] at hx3; subst hx3; clear hs3 hb3 hn3))
    go_ret
    have hb4 : Below w3.heap.size w3 (w3.alloc (.cells #[.int .i64 (fndM c l).1.f, .slice a3 n3 c3] 97)) := by (repeat (first | exact Below.refl _ _ | exact below_drewN _ | refine Below.drew ?_ | refine Below.alloc ?_ (by simp) _ | refine Below.setCell ?_ (by simp) _ | refine below_drewN' ?_ _))
    exact ⟨_, rfl, HS3.out.below hb4, HB3.out.trans (hb4.mono HB3.out.size)⟩

theorem ucdCompat (c : Int) (w : World) : Calls Tryz.prog 142 #[.int .i64 c] w fun e w' => ∃ x, e = .returned x ∧ Sl .i64 w' x (mapS tabCompat c) ∧ Below w.heap.size w w' := by
  go_enter Tryz.func142, Tryz.ntmps142
  go_wp2_with (first
    | (go_at_call 56; refine (apiCompat w).mono ?_; rintro e w1 ⟨v1, rfl, hs1, hb1⟩; have HS1 := hid hs1.sm; have HB1 := hid hb1; clear hs1 hb1)
    | (go_at_call 133; refine (ucdMapped v1 tabCompat c w1 HS1.out).mono ?_; rintro e w2 ⟨x2, rfl, hs2, hb2⟩; have HS2 := hid hs2; have HB2 := hid hb2; clear hs2 hb2))
  go_ret
  exact ⟨_, rfl, HS2.out, HB1.out.trans (HB2.out.mono HB1.out.size)⟩
theorem ucdFold (c : Int) (w : World) : Calls Tryz.prog 120 #[.int .i64 c] w fun e w' => ∃ x, e = .returned x ∧ Sl .i64 w' x (mapS tabFolds c) ∧ Below w.heap.size w w' := by
  go_enter Tryz.func120, Tryz.ntmps120
  go_wp2_with (first
    | (go_at_call 57; refine (apiFolds w).mono ?_; rintro e w1 ⟨v1, rfl, hs1, hb1⟩; have HS1 := hid hs1.sm; have HB1 := hid hb1; clear hs1 hb1)
    | (go_at_call 133; refine (ucdMapped v1 tabFolds c w1 HS1.out).mono ?_; rintro e w2 ⟨x2, rfl, hs2, hb2⟩; have HS2 := hid hs2; have HB2 := hid hb2; clear hs2 hb2))
  go_ret
  exact ⟨_, rfl, HS2.out, HB1.out.trans (HB2.out.mono HB1.out.size)⟩

theorem OwnG.far6 {e base : Nat} {w : World} {v : Value} {l : List Rg} (h : OwnG e base w v l) {B : Nat} (hB : B < base) (j : Nat) (u : Value) : OwnG e base (w.setCell ⟨B, j, none⟩ u) v l := by
  obtain ⟨h1, h2⟩ := h
  refine ⟨h1, ?_⟩
  rcases h2 with h2 | ⟨g, cap, cur, hv, hg, hh, r⟩
  · exact .inl h2
  · refine .inr ⟨g, cap, cur, hv, hg, ?_, r⟩
    rw [Below.heap_setCell _ _ _ _ (fun e => by simp only at e; omega)]
    exact hh
theorem ucdDecompositions (w : World) : Calls Tryz.prog 53 #[] w fun e w' => ∃ v, e = .returned (.agg #[v, .func (.func 83) #[] #[]]) ∧ Sg w' v tabCanon ∧ Below w.heap.size w w' := by
  go_enter Tryz.func53, Tryz.ntmps53
  have h9 := store_fn Tryz.prog (Fn.func 83)
  have HB0 := hid (show Below w.heap.size w (w.alloc (.cells #[.slice none 0 0, .nilFunc] 71)) by (repeat (first | exact Below.refl _ _ | exact below_drewN _ | refine Below.drew ?_ | refine Below.alloc ?_ (by simp) _ | refine Below.setCell ?_ (by simp) _ | refine below_drewN' ?_ _)))
  have HX := hid (Box.made w 71 [.slice none 0 0, .nilFunc])
  go_wp2_with (go_at_call 55; refine (apiCanon _).mono ?_; rintro e w1 ⟨v1, rfl, ho1, hb1⟩; obtain ⟨a1, c1, hv1⟩ := ho1.form; obtain ⟨n, hn⟩ : ∃ n, n = tabCanon.length := ⟨_, rfl⟩; rw [← hn] at hv1; subst hv1; have HO1 := hid ho1; have HB1 := hid (HB0.out.trans (hb1.mono HB0.out.size)); have HX1 := hid (HX.out.below hb1 HX.out.lt); clear ho1 hb1 hn; have z0 := HX1.out.ice 0; have z1 := HX1.out.ice 1; have y0 := HX1.out.cell 0; have y1 := HX1.out.cell 1; simp only [List.getElem?_cons_zero, List.getElem?_cons_succ] at y0 y1)
  have hlt : w.heap.size < (w.alloc (.cells #[.slice none 0 0, .nilFunc] 71)).heap.size := by simp
  refine bodyPost_ret (results_one rfl rfl (loadT1 (HX1.out.pair _ _))) rfl ⟨_, rfl, ((HO1.out.far6 hlt 0 _).far6 hlt 1 _).sg, below_pair HB1.out (Nat.le_refl _)⟩

/-- the canonical decomposition that a row tells -/
def rowS (r : Rg × Bool) : List Int := if r.2 then (if r.1.v == 0 then [r.1.t] else [r.1.t, r.1.v]) else []
def canonS (c : Int) : List Int := if scalarB c then rowS (fndS (fun r => r.f == c) tabCanon) else []
theorem canonS_t {c : Int} (h : scalarB c = true) : rowS (fndS (fun r => r.f == c) tabCanon) = canonS c := by unfold canonS; rw [h]; rfl
theorem canonS_f {c : Int} (h : scalarB c = false) : [] = canonS c := by unfold canonS; rw [h]; rfl

set_option maxHeartbeats 2000000 in
theorem ucdCanon (c : Int) (w : World) : Calls Tryz.prog 26 #[.int .i64 c] w fun e w' => ∃ x, e = .returned x ∧ Sl .i64 w' x (canonS c) ∧ Below w.heap.size w w' := by
  obtain ⟨b, hb⟩ : ∃ b, b = scalarB c := ⟨_, rfl⟩
  cases b with
  | false =>
    have HR := hid (canonS_f hb.symm)
    have HB := hid hb
    clear hb
    go_enter Tryz.func26, Tryz.ntmps26
    go_wp2_with (go_at_call 52; refine (ucdScalar c _).mono ?_; rw [← HB.out]; rintro e w1 ⟨rfl, rfl⟩)
    go_ret
    exact ⟨_, rfl, by rw [← HR.out]; exact sl_nil _ _, Below.refl _ _⟩
  | true =>
    have hr := canonS_t hb.symm
    have HB := hid hb
    clear hb
    obtain ⟨R, hR⟩ : ∃ R, R = fndS (fun r => r.f == c) tabCanon := ⟨_, rfl⟩
    rw [← hR] at hr
    obtain ⟨⟨f, t, v⟩, ok⟩ := R
    have HF := hid (fun (w : World) (x : Value) (h : Sg w x tabCanon) => (show Calls Tryz.prog 54 #[.agg #[x, .func (.func 83) #[] #[]], .int .i64 c] w fun e w' => e = .returned (.tuple #[.agg #[.int .i64 f, .int .i64 t, .int .i64 v], .bool ok]) ∧ Below w.heap.size w w' by have := ucdFind1 x tabCanon c w h; rw [← hR] at this; exact this))
    clear hR
    cases ok with
    | false =>
      have HR := hid (show [] = canonS c from hr)
      clear hr
      go_enter Tryz.func26, Tryz.ntmps26
      go_wp2_with (first
        | (go_at_call 52; refine (ucdScalar c _).mono ?_; rw [← HB.out]; rintro e w1 ⟨rfl, rfl⟩)
        | (go_at_call 53; refine (ucdDecompositions _).mono ?_; rintro e w2 ⟨v2, rfl, hs2, hb2⟩; have HS2 := hid hs2; have HB2 := hid hb2; clear hs2 hb2)
        | (go_at_call 54; refine (HF.out w2 v2 HS2.out).mono ?_; rintro e w3 ⟨rfl, hb3⟩; have HB3 := hid (HB2.out.trans (hb3.mono HB2.out.size)); clear hb3))
      go_ret
      exact ⟨_, rfl, by rw [← HR.out]; exact sl_nil _ _, HB3.out.alloc HB3.out.size _⟩
    | true =>
      obtain ⟨y, hy⟩ : ∃ y, y = (v == 0) := ⟨_, rfl⟩
      have hr2 : (if y then [t] else [t, v]) = canonS c := by rw [hy]; exact hr
      clear hr
      replace hy := hy.symm
      cases y with
      | true =>
        have HR := hid (show [t] = canonS c from hr2)
        clear hr2
        go_enter Tryz.func26, Tryz.ntmps26
        go_wp2_with (first
          | (go_at_call 52; refine (ucdScalar c _).mono ?_; rw [← HB.out]; rintro e w1 ⟨rfl, rfl⟩)
          | (go_at_call 53; refine (ucdDecompositions _).mono ?_; rintro e w2 ⟨v2, rfl, hs2, hb2⟩; have HS2 := hid hs2; have HB2 := hid hb2; clear hs2 hb2)
          | (go_at_call 54; refine (HF.out w2 v2 HS2.out).mono ?_; rintro e w3 ⟨rfl, hb3⟩; have HB3 := hid (HB2.out.trans (hb3.mono HB2.out.size)); clear hb3))
        go_ret
        have HB4 := HB3.out.alloc HB3.out.size (.cells #[.int .i64 f, .int .i64 t, .int .i64 v] 66)
        exact ⟨_, rfl, by rw [← HR.out]; exact lit_sl (by first | simp | rfl) rfl rfl (by simp), HB4.alloc HB4.size _⟩
      | false =>
        have HR := hid (show [t, v] = canonS c from hr2)
        clear hr2
        go_enter Tryz.func26, Tryz.ntmps26
        go_wp2_with (first
          | (go_at_call 52; refine (ucdScalar c _).mono ?_; rw [← HB.out]; rintro e w1 ⟨rfl, rfl⟩)
          | (go_at_call 53; refine (ucdDecompositions _).mono ?_; rintro e w2 ⟨v2, rfl, hs2, hb2⟩; have HS2 := hid hs2; have HB2 := hid hb2; clear hs2 hb2)
          | (go_at_call 54; refine (HF.out w2 v2 HS2.out).mono ?_; rintro e w3 ⟨rfl, hb3⟩; have HB3 := hid (HB2.out.trans (hb3.mono HB2.out.size)); clear hb3))
        go_ret
        have HB4 := HB3.out.alloc HB3.out.size (.cells #[.int .i64 f, .int .i64 t, .int .i64 v] 66)
        exact ⟨_, rfl, by rw [← HR.out]; exact lit_sl (by first | simp | rfl) rfl rfl (by simp), HB4.alloc HB4.size _⟩
end Go.Proofs.YtidjjaginindoaaGreat

/-! Ucd11 -/
namespace Go.Proofs.YtidjjaginindoaaGreat
open Go.RowKit
open Go.Great (wp_anyFrame)

theorem apiClassesO (w : World) : Calls Tryz.prog 59 #[] w fun e w' => ∃ v, e = .returned v ∧ OwnG 41 w.heap.size w' v tabClasses ∧ Below w.heap.size w w' := by
  refine calls_of_wp Tryz.func59 rfl ?_
  refine wp_anyFrame 28 (by as_aux_lemma => kernel_rfl) rfl fun a0 hs0 hd0 => ?_
  apply wp_seq_k; intro K0 hK0
  apply wp_region_lit
  refine Go.Great.wpList_readTo rfl (some 0) rfl (.slice none 0 0) rfl ?_
  apply wpList_nil
  refine hK0 _ _ ?_
  clear hK0 K0
  refine wp_anyFrame 28 (by simp only [Act.size_put, hs0]) (by simp only [Act.defers_put', hd0]) fun a1 hs1 hd1 => ?_
  apply wp_seq_k; intro K1 hK1
  apply wp_region_lit
  refine Go.Great.wpList_splitAt 26 (Go.Great.rgOps 41 "tables.go:80" .i64 1 (tri tabClasses)) (by as_aux_lemma => kernel_rfl) ?_
  refine Go.Great.wpList_rgs 41 "tables.go:80" .i64 (fun _ _ _ => by as_aux_lemma => kernel_rfl) _ 1 _ (by rw [hs1]; exact Nat.le_of_ble_eq_true (by as_aux_lemma => kernel_rfl)) fun b hb hbd hev _ => ?_
  refine Go.Great.wpList_buildRgs rfl 38 41 _ .i64 (tri tabClasses).toArray rfl 1 w.heap.size rfl (some 27) rfl (by as_aux_lemma => kernel_rfl) (by as_aux_lemma => kernel_rfl) (by as_aux_lemma => kernel_rfl) (by decide) (by decide) (by as_aux_lemma => kernel_rfl) hev ?_
  refine Go.Great.wpList_readTo rfl (some 0) rfl (.slice (some ⟨w.heap.size, 0, none⟩) 26 26) ?_ ?_
  · have := Act.eval_put_same b 27 (.slice (some ⟨w.heap.size, 0, none⟩) 26 26) (by rw [hb, hs1]; omega)
    exact congrArg (fun v => Result.ok (Next.value v) _) this
  apply wpList_nil
  refine hK1 _ _ ?_
  refine wp_ret (bodyPost_ret (results_tmp rfl _ _ _) (by simp only [Act.defers_put', hbd, hd1]) ⟨_, rfl, ?_, by (repeat (first | exact Below.refl _ _ | exact below_drewN _ | refine Below.drew ?_ | refine Below.alloc ?_ (by simp) _ | refine Below.setCell ?_ (by simp) _ | refine below_drewN' ?_ _))⟩)
  have := Act.eval_put_same (b.put (some 27) (.slice (some ⟨w.heap.size, 0, none⟩) 26 26)) 0 (.slice (some ⟨w.heap.size, 0, none⟩) 26 26) (by rw [Act.size_put, hb, hs1]; omega)
  rw [show ∀ a : Act, a.tmps.getD 0 undef = a.eval (.tmp 0) from fun _ => rfl]
  exact (congrArg (fun v => OwnG _ _ _ v tabClasses) this).mpr (ownG_made rfl (by as_aux_lemma => kernel_rfl) (Nat.le_refl _) ((tri_cells (by decide)).trans gv_tri) (by decide))


def exclL : List Int := [836, 2392, 2393, 64285, 64298, 64299]
theorem apiExcludedO (w : World) : Calls Tryz.prog 58 #[] w fun e w' => ∃ v, e = .returned v ∧ Own .i64 3 w.heap.size w' v exclL ∧ Below w.heap.size w w' := by
  go_enter Tryz.func58, Tryz.ntmps58
  go_wp2_with (fail)
  go_ret
  exact ⟨_, rfl, lit_own (by first | simp | rfl) (Nat.le_refl _) rfl rfl (by decide), by (repeat (first | exact Below.refl _ _ | exact below_drewN _ | refine Below.drew ?_ | refine Below.alloc ?_ (by simp) _ | refine Below.setCell ?_ (by simp) _ | refine below_drewN' ?_ _))⟩

/-- what else is owned stays when a row of another type turns -/
theorem ownG_row {w w' : World} {base e size n : Nat} {v : Value} {cs : List Value} (h : w.ownsRow base e size v n cs) {e2 base2 : Nat} {u : Value} {l : List Rg} (ho : OwnG e2 base2 w u l) (ht : e2 ≠ e) (hg : w.grownBy w' v.ownBlock) : OwnG e2 base2 w' u l := by
  refine World.ownsRow.kept ho hg ?_
  cases hb : u.ownBlock with
  | none => exact .inl rfl
  | some c =>
    refine .inr fun hrow => ?_
    rcases h.2 with ⟨rfl, _⟩ | ⟨g, cap, cur, rfl, _, hg1, _⟩
    · simp [Value.ownBlock] at hrow
    · rcases ho.2 with ⟨rfl, _⟩ | ⟨g2, cap2, cur2, rfl, _, hg2, _⟩
      · simp [Value.ownBlock] at hb
      · simp [Value.ownBlock] at hrow hb
        subst hrow hb
        rw [hg1] at hg2
        simp at hg2
        exact ht hg2.2.symm
theorem delAt {B1 B2 g n cap base b2 b3 : Nat} {ve vc : Value} {excl : List Int} {l cls : List Rg} {w : World} (h : OwnG 66 base w (.slice (some ⟨g, 0, none⟩) n cap) l) (he : Own .i64 3 b2 w ve excl) (hc : OwnG 41 b3 w vc cls)
    (h1 : w.cell? ⟨B1, 0, none⟩ = some ve) (h2 : w.cell? ⟨B2, 0, none⟩ = some vc) (n1 : B1 ≠ g) (n2 : B2 ≠ g) : DelAt (delS excl cls) B1 B2 g w := fun wr hgr a b c => by
  have hg' : w.grownBy wr (Value.slice (some ⟨g, 0, none⟩) n cap).ownBlock := hgr
  have k1 : wr.cell? ⟨B1, 0, none⟩ = w.cell? ⟨B1, 0, none⟩ := by
    have e : wr.heap[B1]? = w.heap[B1]? := hgr.block B1 (World.block_lt_of_cell? w _ h1) (fun h => n1 (by injection h))
    simp only [World.cell?, e]
  have k2 : wr.cell? ⟨B2, 0, none⟩ = w.cell? ⟨B2, 0, none⟩ := by
    have e : wr.heap[B2]? = w.heap[B2]? := hgr.block B2 (World.block_lt_of_cell? w _ h2) (fun h => n2 (by injection h))
    simp only [World.cell?, e]
  exact ucdDel B1 B2 ve vc excl cls a b c wr (k1.trans h1) (own_row h he (by decide) hg').sl (k2.trans h2) (ownG_row h hc (by decide) hg').sg

set_option maxHeartbeats 2000000 in
theorem ucdComposed (g n cap base b2 b3 : Nat) (a2 a3 : Option Addr) (m2 c2 m3 c3 : Nat) (l cls : List Rg) (excl : List Int) (w : World) (h : OwnG 66 base w (.slice (some ⟨g, 0, none⟩) n cap) l) (he : Own .i64 3 b2 w (.slice a2 m2 c2) excl) (hc : OwnG 41 b3 w (.slice a3 m3 c3) cls) :
    Calls Tryz.prog 144 #[.slice (some ⟨g, 0, none⟩) n cap, .slice a2 m2 c2, .slice a3 m3 c3] w fun e w' => ∃ k, e = .returned (.slice (some ⟨g, 0, none⟩) k cap) ∧ OwnG 66 base w' (.slice (some ⟨g, 0, none⟩) k cap) (l.filter fun r => !delS excl cls r) ∧ w.grownBy w' (some g) := by
  obtain ⟨-, -, -, -, cur, hcg, -⟩ := h.block
  have hglt : g < w.heap.size := (Array.getElem?_eq_some_iff.1 hcg).1
  have hb : Below w.heap.size w ((w.alloc (.cells #[.slice a2 m2 c2] 22)).alloc (.cells #[.slice a3 m3 c3] 38)) := by (repeat (first | exact Below.refl _ _ | exact below_drewN _ | refine Below.drew ?_ | refine Below.alloc ?_ (by simp) _ | refine Below.setCell ?_ (by simp) _ | refine below_drewN' ?_ _))
  have HB := hid hb
  have HO := hid (h.below hb)
  have x1 := ((Box.made w 22 [.slice a2 m2 c2]).alloc (.cells #[.slice a3 m3 c3] 38)).cell 0
  have x2 := (box_last w (.cells #[.slice a2 m2 c2] 22) 38 [.slice a3 m3 c3]).cell 0
  simp only [List.getElem?_cons_zero] at x1 x2
  have HD := hid (delAt (h.below hb) (he.below hb) (hc.below hb) x1 x2 (by omega) (by omega))
  clear h he hc hb x1 x2 hcg
  go_enter Tryz.func144, Tryz.ntmps144
  go_wp2_with (go_at_call 146; refine (slicesDeleteFunc _ _ _ g n cap base l _ HO.out HD.out).mono ?_; rintro e w1 ⟨k, rfl, ho1, hg1⟩; have HO1 := hid ho1; have HG1 := hid hg1; clear ho1 hg1)
  go_ret
  exact ⟨k, rfl, HO1.out, grown_trans (grown_below HB.out _) HG1.out⟩

def tabPair : List Rg := tabCanon.filter fun r => !delS exclL tabClasses r
theorem canon_pos : 0 < tabCanon.length := by
  unfold tabCanon
  rw [List.length_append]
  have : 0 < canonHead.length := by decide
  omega
theorem box_other {t : TypeId} {cs : List Value} {B g : Nat} {w w' : World} (h : Box t cs B w) (hg : w.grownBy w' (some g)) (hn : B ≠ g) : Box t cs B w' := (hg.block B h.lt (fun e => hn (by injection e))).trans h
set_option maxHeartbeats 2000000 in
theorem ucdComposites (w : World) : Calls Tryz.prog 139 #[] w fun e w' => ∃ v, e = .returned (.agg #[v, .func (.func 145) #[] #[]]) ∧ Sg w' v tabPair ∧ Below w.heap.size w w' := by
  have h9 := store_fn Tryz.prog (Fn.func 145)
  have HB0 := hid (show Below w.heap.size w (w.alloc (.cells #[.slice none 0 0, .nilFunc] 143)) by (repeat (first | exact Below.refl _ _ | exact below_drewN _ | refine Below.drew ?_ | refine Below.alloc ?_ (by simp) _ | refine Below.setCell ?_ (by simp) _ | refine below_drewN' ?_ _)))
  have HX := hid (Box.made w 143 [.slice none 0 0, .nilFunc])
  have hs0 : (w.alloc (.cells #[.slice none 0 0, .nilFunc] 143)).heap.size = w.heap.size + 1 := by simp
  have HS0 := hid hs0
  clear hs0
  go_enter Tryz.func139, Tryz.ntmps139
  go_wp2_with (first
    | (go_at_call 55; refine (apiCanon _).mono ?_; rintro e w1 ⟨v1, rfl, ho1, hb1⟩; obtain ⟨g1, c1, hv1, hg1, _⟩ := World.ownsRow.form ho1 canon_pos; obtain ⟨n, hn⟩ : ∃ n, n = tabCanon.length := ⟨_, rfl⟩; rw [← hn] at hv1; subst hv1; have HO1 := hid ho1; have HB1 := hid hb1; have HX1 := hid (HX.out.below hb1 HX.out.lt); have HG1 := hid hg1; clear ho1 hb1 hn hg1)
    | (go_at_call 58; refine (apiExcludedO w1).mono ?_; rintro e w2 ⟨v2, rfl, ho2, hb2⟩; obtain ⟨a2, c2, hv2⟩ := ho2.sl.form; obtain ⟨m2, hm2⟩ : ∃ n, n = exclL.length := ⟨_, rfl⟩; rw [← hm2] at hv2; subst hv2; have HO2 := hid ho2; have HB2 := hid hb2; clear ho2 hb2 hm2)
    | (go_at_call 59; refine (apiClassesO w2).mono ?_; rintro e w3 ⟨v3, rfl, ho3, hb3⟩; obtain ⟨a3, c3, hv3⟩ := ho3.form; obtain ⟨m3, hm3⟩ : ∃ n, n = tabClasses.length := ⟨_, rfl⟩; rw [← hm3] at hv3; subst hv3; have HO3 := hid ho3; have HB3 := hid hb3; clear ho3 hb3 hm3)
    | (go_at_call 144; refine (ucdComposed g1 n c1 _ _ _ a2 a3 m2 c2 m3 c3 tabCanon tabClasses exclL w3 ((HO1.out.below HB2.out).below HB3.out) (HO2.out.below HB3.out) HO3.out).mono ?_; rintro e w4 ⟨k4, rfl, ho4, hg4⟩; have HX4 := hid (box_other ((HX1.out.below HB2.out HX1.out.lt).below HB3.out (Nat.lt_of_lt_of_le HX1.out.lt HB2.out.size)) hg4 (by have := HG1.out; have := HS0.out; omega)); have HO4 := hid ho4; have HG4 := hid hg4; clear ho4 hg4; have z0 := HX4.out.ice 0; have z1 := HX4.out.ice 1; have y0 := HX4.out.cell 0; have y1 := HX4.out.cell 1; simp only [List.getElem?_cons_zero, List.getElem?_cons_succ] at y0 y1))
  have hlt : w.heap.size < (w.alloc (.cells #[.slice none 0 0, .nilFunc] 143)).heap.size := by rw [HS0.out]; omega
  have k1 := HB0.out.trans (HB1.out.mono HB0.out.size)
  have k2 := k1.trans (HB2.out.mono k1.size)
  have k3 := k2.trans (HB3.out.mono k2.size)
  have k4 := k3.grown HG4.out k3.size (fun k hk => by injection hk with hk; have := HG1.out; have := HS0.out; omega)
  refine bodyPost_ret (results_one rfl rfl (loadT2 (HX4.out.pair _ _))) rfl ⟨_, rfl, ((HO4.out.far6 hlt 0 _).far6 hlt 1 _).sg, below_pair k4 (Nat.le_refl _)⟩

/-- what two scalars compose, and whether they do -/
def pairS (a b : Int) : Int × Bool := ((fndS (fun r => r.t == a && r.v == b) tabPair).1.f, (fndS (fun r => r.t == a && r.v == b) tabPair).2)
set_option maxHeartbeats 2000000 in
theorem ucdPair (a b : Int) (w : World) : Calls Tryz.prog 134 #[.int .i64 a, .int .i64 b] w fun e w' => e = .returned (.tuple #[.int .i64 (pairS a b).1, .bool (pairS a b).2]) ∧ Below w.heap.size w w' := by
  unfold pairS
  obtain ⟨R, hR⟩ : ∃ R, R = fndS (fun r => r.t == a && r.v == b) tabPair := ⟨_, rfl⟩
  rw [← hR]
  obtain ⟨⟨f, t, v⟩, ok⟩ := R
  have HF := hid (fun (w : World) (x : Value) (h : Sg w x tabPair) => (show Calls Tryz.prog 140 #[.agg #[x, .func (.func 145) #[] #[]], .agg #[.int .i64 a, .int .i64 b]] w fun e w' => e = .returned (.tuple #[.agg #[.int .i64 f, .int .i64 t, .int .i64 v], .bool ok]) ∧ Below w.heap.size w w' by have := ucdFind2 x tabPair a b w h; rw [← hR] at this; exact this))
  clear hR
  simp only
  go_enter Tryz.func134, Tryz.ntmps134
  go_wp2_with (first
    | (go_at_call 139; refine (ucdComposites _).mono ?_; rintro e w2 ⟨v2, rfl, hs2, hb2⟩; have HS2 := hid hs2; have HB2 := hid hb2; clear hs2 hb2)
    | (go_at_call 140; refine (HF.out w2 v2 HS2.out).mono ?_; rintro e w3 ⟨rfl, hb3⟩; have HB3 := hid (HB2.out.trans (hb3.mono HB2.out.size)); clear hb3))
  go_ret2
  exact ⟨rfl, HB3.out.alloc HB3.out.size _⟩
end Go.Proofs.YtidjjaginindoaaGreat

/-! Ref6b -/
namespace Go.Proofs.YtidjjaginindoaaGreat
open Go.RowKit

/-- the tables lie behind block B -/
def TabsAt (B : Nat) (w : World) : Prop := ∃ v1 v2 v3 v4 v5, Box 79 [v1, v2, v3, v4, v5] B w ∧ Sg w v1 tabCanon ∧ Sm w v2 tabCompat ∧ Sm w v3 tabFolds ∧ Sl .i64 w v4 exclL ∧ Sg w v5 tabClasses
theorem TabsAt.below {B : Nat} {w w' : World} (h : TabsAt B w) (hb : Below w.heap.size w w') : TabsAt B w' := by
  obtain ⟨v1, v2, v3, v4, v5, hx, h1, h2, h3, h4, h5⟩ := h
  exact ⟨v1, v2, v3, v4, v5, hx.below hb hx.lt, h1.below hb, h2.below hb, h3.below hb, h4.below hb, h5.below hb⟩

set_option maxHeartbeats 2000000 in
theorem refAll6 (w : World) : Calls Tryz.prog 27 #[] w fun e w' => ∃ B, e = .returned (.pointer (some ⟨B, 0, none⟩)) ∧ TabsAt B w' ∧ Below w.heap.size w w' := by
  go_enter Tryz.func27, Tryz.ntmps27
  go_wp2_with (first
    | (go_at_call 55; refine (apiCanon _).mono ?_; rintro e w1 ⟨v1, rfl, ho1, hb1⟩; have HO1 := hid ho1.sg; have HB1 := hid hb1; obtain ⟨a1, c1, hv1⟩ := ho1.form; obtain ⟨n1, hn1⟩ : ∃ n, n = tabCanon.length := ⟨_, rfl⟩; rw [← hn1] at hv1; subst hv1; clear ho1 hb1 hn1)
    | (go_at_call 56; refine (apiCompat _).mono ?_; rintro e w2 ⟨v2, rfl, ho2, hb2⟩; have HO2 := hid ho2.sm; have HB2 := hid hb2; obtain ⟨a2, c2, hv2⟩ := ho2.form; obtain ⟨n2, hn2⟩ : ∃ n, n = tabCompat.length := ⟨_, rfl⟩; rw [← hn2] at hv2; subst hv2; clear ho2 hb2 hn2)
    | (go_at_call 57; refine (apiFolds _).mono ?_; rintro e w3 ⟨v3, rfl, ho3, hb3⟩; have HO3 := hid ho3.sm; have HB3 := hid hb3; obtain ⟨a3, c3, hv3⟩ := ho3.form; obtain ⟨n3, hn3⟩ : ∃ n, n = tabFolds.length := ⟨_, rfl⟩; rw [← hn3] at hv3; subst hv3; clear ho3 hb3 hn3)
    | (go_at_call 58; refine (apiExcludedO _).mono ?_; rintro e w4 ⟨v4, rfl, ho4, hb4⟩; have HO4 := hid ho4.sl; have HB4 := hid hb4; obtain ⟨a4, c4, hv4⟩ := ho4.sl.form; obtain ⟨n4, hn4⟩ : ∃ n, n = exclL.length := ⟨_, rfl⟩; rw [← hn4] at hv4; subst hv4; clear ho4 hb4 hn4)
    | (go_at_call 59; refine (apiClasses _).mono ?_; rintro e w5 ⟨v5, rfl, ho5, hb5⟩; have HO5 := hid ho5; have HB5 := hid hb5; obtain ⟨a5, c5, hv5⟩ := ho5.form; obtain ⟨n5, hn5⟩ : ∃ n, n = tabClasses.length := ⟨_, rfl⟩; rw [← hn5] at hv5; subst hv5; clear ho5 hb5 hn5))
  go_ret
  have k6 : Below w5.heap.size w5 (w5.alloc (.cells #[.slice a1 n1 c1, .slice a2 n2 c2, .slice a3 n3 c3, .slice a4 n4 c4, .slice a5 n5 c5] 79)) := by (repeat (first | exact Below.refl _ _ | exact below_drewN _ | refine Below.drew ?_ | refine Below.alloc ?_ (by simp) _ | refine Below.setCell ?_ (by simp) _ | refine below_drewN' ?_ _))
  have k2 := HB1.out.trans (HB2.out.mono HB1.out.size)
  have k3 := k2.trans (HB3.out.mono k2.size)
  have k4 := k3.trans (HB4.out.mono k3.size)
  have k5 := k4.trans (HB5.out.mono k4.size)
  exact ⟨w5.heap.size, rfl, ⟨_, _, _, _, _, Box.made w5 _ [_, _, _, _, _], ((((HO1.out.below HB2.out).below HB3.out).below HB4.out).below HB5.out).below k6, (((HO2.out.below HB3.out).below HB4.out).below HB5.out).below k6, ((HO3.out.below HB4.out).below HB5.out).below k6, (HO4.out.below HB5.out).below k6, HO5.out.below k6⟩, k5.trans (k6.mono k5.size)⟩

theorem refTClass (B : Nat) (c : Int) (w : World) (h : TabsAt B w) : Calls Tryz.prog 46 #[.pointer (some ⟨B, 0, none⟩), .int .i64 c] w fun e w' => e = .returned (.int .i64 (classS c)) ∧ w = w' := by
  obtain ⟨v1, v2, v3, v4, v5, hx, h1, h2, h3, h4, h5⟩ := h
  have HS := hid h5
  have x4 := hx.cell 4
  simp only [List.getElem?_cons_zero, List.getElem?_cons_succ] at x4
  have HR := hid (class_look c)
  clear hx h1 h2 h3 h4 h5
  go_enter Tryz.func46, Tryz.ntmps46
  go_wp2_with (first
    | (go_at_call 75; refine (refLook v5 tabClasses c w HS.out).mono ?_; rw [HR.out]; rintro e w2 ⟨rfl, rfl⟩))
  go_ret
  exact ⟨rfl, rfl⟩

set_option maxHeartbeats 2000000 in
theorem refLook6 (v : Value) (l : List Mp) (c : Int) (w : World) (h : Sm w v l) (hs : ∀ m ∈ l, m.t.length ≤ 1000) :
    Calls Tryz.prog 92 #[v, .int .i64 c] w fun e w' => ∃ x, e = .returned x ∧ Sl .i64 w' x (fndM c l).1.t ∧ Below w.heap.size w w' := by
  have ml := h.len
  obtain ⟨a1, cap1, rfl, q1, -, h1⟩ := h
  obtain ⟨n, hn⟩ : ∃ n, n = l.length := ⟨_, rfl⟩
  obtain ⟨R, hR⟩ : ∃ R, R = (fndM c l).1.t := ⟨_, rfl⟩
  have hH : ∀ k, k < n → (∀ i, i < k → ((l.getD i noMp).f == c) = false) → ((l.getD k noMp).f == c) = true → R = (l.getD k noMp).t := fun k hk ha hh => by rw [hR, fndM_hit (by omega) ha hh]
  have hN : (∀ i, i < n → ((l.getD i noMp).f == c) = false) → R = [] := fun ha => by rw [hR, fndM_none (by rw [← hn]; exact ha)]; rfl
  have hS : ∀ k, k < n → (l.getD k noMp).t.length ≤ 1000 := fun k hk => hs _ (by
    have e : l.getD k noMp = l[k]'(by omega) := by rw [List.getD_eq_getElem?_getD, List.getElem?_eq_getElem (by omega)]; rfl
    rw [e]
    exact List.getElem_mem _)
  rw [← hR]
  have HH := hid hH
  have HN := hid hN
  have H1 := hid h1
  have HS := hid hS
  rw [← hn] at ml q1 H1 ⊢
  clear hH hN h1 hn hR hs hS
  go_enter Tryz.func92, Tryz.ntmps92
  go_wp2_with (fail)
  go_loopw [5] (fun iv wr => ∃ k : Nat, k ≤ n ∧ iv = .int .i64 k ∧ wr = w ∧ Hid (∀ i, i < k → ((l.getD i noMp).f == c) = false)) (fun iv _ => n - (intOf iv).toNat)
  case atStart => exact ⟨0, by omega, rfl, rfl, fun i hi => absurd hi (by omega)⟩
  case round =>
    obtain ⟨k, hk, rfl, rfl, hall⟩ := hrel
    by_cases hlt : k < n
    · rcases H1.out with hc | ⟨b1, o1, rfl, hb1, c1⟩
      · omega
      obtain ⟨d1, ux, d2, d3⟩ := c1 k hlt
      have hh := hid (HH.out k hlt hall.out)
      have hsm := hid (HS.out k hlt)
      have HNX := hid (show ((l.getD k noMp).f == c) = false → ∀ i, i < k + 1 → ((l.getD i noMp).f == c) = false from fun he i hi => by
        rcases Nat.lt_or_ge i k with h | h
        · exact hall.out i h
        · obtain rfl : i = k := by omega
          exact he)
      clear c1
      generalize l.getD k noMp = r at d1 d2 d3 hh HNX hsm
      obtain ⟨rf, rt⟩ := r
      simp only at d1 d2 d3 hh HNX hsm
      have HD := hid d3
      clear d3
      obtain ⟨b, hb⟩ : ∃ b, b = (rf == c) := ⟨_, rfl⟩
      rw [← hb] at hh HNX
      replace hb := hb.symm
      cases b with
      | true =>
        have hr := hid (hh.out rfl)
        go_wp2_with (go_at_call 9; refine (keepTwinInts ux rt _ HD.out (by have := hsm.out; omega)).mono ?_; rintro e w2 ⟨v2, rfl, ho2, hb2⟩; have HO2 := hid ho2; have HB2 := hid hb2; clear ho2 hb2)
        go_ret
        exact ⟨_, rfl, by rw [hr.out]; exact HO2.out.sl, HB2.out⟩
      | false =>
        have hr := hid (HNX.out rfl)
        go_wp2_with (fail)
        go_roundw
        case rel => exact ⟨k + 1, by omega, by go_num, by first | trivial | rfl, hr.out⟩
        case measure => simp [intOf]; omega
    · obtain rfl : k = n := by omega
      have hr := hid (HN.out hall.out)
      go_wp2_with (fail)
      go_ret
      exact ⟨_, rfl, by rw [hr.out]; exact sl_nil _ _, Below.refl _ _⟩

/-- no entry speaks of what is no scalar; what they tell is short -/
def offM (l : List Mp) : Bool := l.all fun m => scalarB m.f && decide (m.t.length ≤ 1000)
set_option maxRecDepth 100000 in
theorem offM_all : offM tabCompat = true ∧ offM tabFolds = true := by decide +kernel
theorem offM_map {l : List Mp} (h : offM l = true) (c : Int) : (fndM c l).1.t = mapS l c := by
  cases hb : scalarB c with
  | true => exact mapS_t hb
  | false =>
    rw [← mapS_f (l := l) hb]
    have key : ∀ l : List Mp, offM l = true → (fndM c l).1.t = [] := fun l => by
      induction l with
      | nil => intro _; rfl
      | cons m l ih =>
        intro h
        simp only [offM, List.all_cons, Bool.and_eq_true] at h
        rw [fndM]
        split
        · rename_i he
          have := eq_of_beq he
          rw [this, hb] at h
          simp at h
        · exact ih h.2
    exact key l h
theorem offM_len {l : List Mp} (h : offM l = true) : ∀ m ∈ l, m.t.length ≤ 1000 := fun m hm => by
  have := List.all_eq_true.1 h m hm
  simp only [Bool.and_eq_true, decide_eq_true_eq] at this
  exact this.2
theorem refTCompat (B : Nat) (c : Int) (w : World) (h : TabsAt B w) : Calls Tryz.prog 124 #[.pointer (some ⟨B, 0, none⟩), .int .i64 c] w fun e w' => ∃ x, e = .returned x ∧ Sl .i64 w' x (mapS tabCompat c) ∧ Below w.heap.size w w' := by
  obtain ⟨v1, v2, v3, v4, v5, hx, h1, h2, h3, h4, h5⟩ := h
  have HS := hid h2
  have x4 := hx.cell 1
  simp only [List.getElem?_cons_zero, List.getElem?_cons_succ] at x4
  have HR := hid (offM_map (c := c) offM_all.1)
  have HL := hid (offM_len offM_all.1)
  clear hx h1 h2 h3 h4 h5
  go_enter Tryz.func124, Tryz.ntmps124
  go_wp2_with (first
    | (go_at_call 92; refine (refLook6 v2 tabCompat c w HS.out HL.out).mono ?_; rw [HR.out]; rintro e wz ⟨x, rfl, hs, hb⟩; have HX := hid hs; have HB := hid hb; clear hs hb))
  go_ret
  exact ⟨_, rfl, HX.out, HB.out⟩
theorem refTFold (B : Nat) (c : Int) (w : World) (h : TabsAt B w) : Calls Tryz.prog 68 #[.pointer (some ⟨B, 0, none⟩), .int .i64 c] w fun e w' => ∃ x, e = .returned x ∧ Sl .i64 w' x (mapS tabFolds c) ∧ Below w.heap.size w w' := by
  obtain ⟨v1, v2, v3, v4, v5, hx, h1, h2, h3, h4, h5⟩ := h
  have HS := hid h3
  have x4 := hx.cell 2
  simp only [List.getElem?_cons_zero, List.getElem?_cons_succ] at x4
  have HR := hid (offM_map (c := c) offM_all.2)
  have HL := hid (offM_len offM_all.2)
  clear hx h1 h2 h3 h4 h5
  go_enter Tryz.func68, Tryz.ntmps68
  go_wp2_with (first
    | (go_at_call 92; refine (refLook6 v3 tabFolds c w HS.out HL.out).mono ?_; rw [HR.out]; rintro e wz ⟨x, rfl, hs, hb⟩; have HX := hid hs; have HB := hid hb; clear hs hb))
  go_ret
  exact ⟨_, rfl, HX.out, HB.out⟩
end Go.Proofs.YtidjjaginindoaaGreat

/-! Ref6c -/
namespace Go.Proofs.YtidjjaginindoaaGreat
open Go.RowKit

set_option maxRecDepth 100000 in
theorem canon_off : (tabCanon.all fun r => scalarB r.f) = true := by decide +kernel
theorem canon_row (c : Int) : rowS (fndS (fun r => r.f == c) tabCanon) = canonS c := by
  cases hb : scalarB c with
  | true => exact canonS_t hb
  | false =>
    rw [← canonS_f hb]
    have key : ∀ l : List Rg, (l.all fun r => scalarB r.f) = true → fndS (fun r => r.f == c) l = (noRg, false) := fun l => by
      induction l with
      | nil => intro _; rfl
      | cons r l ih =>
        intro h
        simp only [List.all_cons, Bool.and_eq_true] at h
        rw [fndS]
        split
        · rename_i he
          have := eq_of_beq he
          rw [this, hb] at h
          simp at h
        · exact ih h.2
    rw [key _ canon_off]
    rfl

set_option maxHeartbeats 2000000 in
theorem refTCanon (B : Nat) (c : Int) (w : World) (h : TabsAt B w) : Calls Tryz.prog 123 #[.pointer (some ⟨B, 0, none⟩), .int .i64 c] w fun e w' => ∃ x, e = .returned x ∧ Sl .i64 w' x (canonS c) ∧ Below w.heap.size w w' := by
  obtain ⟨v1, v2, v3, v4, v5, hx, h1, h2, h3, h4, h5⟩ := h
  have HX := hid hx
  clear h2 h3 h4 h5 hx
  have ml := h1.len
  obtain ⟨l, hl⟩ : ∃ l, l = tabCanon := ⟨_, rfl⟩
  have hR : rowS (fndS (fun r => r.f == c) l) = canonS c := by rw [hl]; exact canon_row c
  rw [← hl] at h1 ml
  clear hl
  obtain ⟨a1, cap1, rfl, q1, -, h1⟩ := h1
  obtain ⟨n, hn⟩ : ∃ n, n = l.length := ⟨_, rfl⟩
  obtain ⟨R, hRR⟩ : ∃ R, R = canonS c := ⟨_, rfl⟩
  rw [← hRR] at hR ⊢
  have hH : ∀ k, k < n → (∀ i, i < k → ((l.getD i noRg).f == c) = false) → ((l.getD k noRg).f == c) = true → R = rowS (l.getD k noRg, true) := fun k hk ha hh => by rw [← hR, fndS_hit (p := fun r => r.f == c) (by omega) ha hh]
  have hN : (∀ i, i < n → ((l.getD i noRg).f == c) = false) → R = [] := fun ha => by rw [← hR, fndS_none (p := fun r => r.f == c) (by rw [← hn]; exact ha)]; rfl
  have HH := hid hH
  have HN := hid hN
  have H1 := hid h1
  rw [← hn] at ml q1 H1 HX
  clear hH hN h1 hn hR hRR
  have x0 := HX.out.cell 0
  simp only [List.getElem?_cons_zero] at x0
  go_enter Tryz.func123, Tryz.ntmps123
  go_wp2_with (fail)
  go_loopw [5] (fun iv wr => ∃ k : Nat, k ≤ n ∧ iv = .int .i64 k ∧ Hid (Below w.heap.size w wr) ∧ Hid (∀ i, i < k → ((l.getD i noRg).f == c) = false)) (fun iv _ => n - (intOf iv).toNat)
  case atStart => exact ⟨0, by omega, rfl, Below.refl _ _, fun i hi => absurd hi (by omega)⟩
  case round =>
    obtain ⟨k, hk, rfl, hbel, hall⟩ := hrel
    have x0 := (HX.out.below hbel.out HX.out.lt).cell 0
    simp only [List.getElem?_cons_zero] at x0
    by_cases hlt : k < n
    · rcases H1.out with hc | ⟨b1, o1, rfl, hb1, c1⟩
      · omega
      have hb1' := hb1 (by omega)
      obtain ⟨d1, d2, d3⟩ := c1 k hlt
      have d1 := (hbel.out.cell (p := ⟨b1, o1 + k * 3, none⟩) hb1').trans d1
      have d2 := (hbel.out.cell (p := ⟨b1, o1 + k * 3 + 1, none⟩) hb1').trans d2
      have d3 := (hbel.out.cell (p := ⟨b1, o1 + k * 3 + 2, none⟩) hb1').trans d3
      have hh := hid (HH.out k hlt hall.out)
      have HNX := hid (show ((l.getD k noRg).f == c) = false → ∀ i, i < k + 1 → ((l.getD i noRg).f == c) = false from fun he i hi => by
        rcases Nat.lt_or_ge i k with h | h
        · exact hall.out i h
        · obtain rfl : i = k := by omega
          exact he)
      clear c1
      generalize l.getD k noRg = r at d1 d2 d3 hh HNX
      obtain ⟨rf, rt, rv⟩ := r
      simp only at d1 d2 d3 hh HNX
      obtain ⟨b, hb⟩ : ∃ b, b = (rf == c) := ⟨_, rfl⟩
      rw [← hb] at hh HNX
      replace hb := hb.symm
      have HB2 := hid (hbel.out.alloc hbel.out.size (.cells #[.int .i64 rf, .int .i64 rt, .int .i64 rv] 66))
      cases b with
      | true =>
        have hr := hh.out rfl
        obtain ⟨y, hy⟩ : ∃ y, y = (rv == 0) := ⟨_, rfl⟩
        have hr2 : R = if y then [rt] else [rt, rv] := by rw [hy]; exact hr
        clear hr
        replace hy := hy.symm
        cases y with
        | true =>
          have HR := hid (show R = [rt] from hr2)
          clear hr2
          go_wp2_with (fail)
          go_ret
          exact ⟨_, rfl, by rw [HR.out]; exact lit_sl (by first | simp | rfl) rfl rfl (by simp), HB2.out.alloc HB2.out.size _⟩
        | false =>
          have HR := hid (show R = [rt, rv] from hr2)
          clear hr2
          go_wp2_with (fail)
          go_ret
          exact ⟨_, rfl, by rw [HR.out]; exact lit_sl (by first | simp | rfl) rfl rfl (by simp), HB2.out.alloc HB2.out.size _⟩
      | false =>
        have hr := hid (HNX.out rfl)
        go_wp2_with (fail)
        go_roundw
        case rel => exact ⟨k + 1, by omega, by go_num, HB2.out, hr.out⟩
        case measure => simp [intOf]; omega
    · obtain rfl : k = n := by omega
      have hr := hid (HN.out hall.out)
      go_wp2_with (fail)
      go_ret
      exact ⟨_, rfl, by rw [hr.out]; exact sl_nil _ _, hbel.out⟩
end Go.Proofs.YtidjjaginindoaaGreat

/-! Ref8 -/
namespace Go.Proofs.YtidjjaginindoaaGreat
open Go.RowKit

/-- what a number comes apart to at once -/
def stepS (k : Bool) (c : Int) : List Int := if (canonS c).isEmpty then (if k then mapS tabCompat c else []) else canonS c
def oneN (k : Bool) : Nat → Int → List Int
  | 0, c => [c]
  | n + 1, c => if (splitS c).isEmpty then (if (stepS k c).isEmpty then [c] else (stepS k c).flatMap (oneN k n)) else splitS c
/-- so many levels suffice -/
def deepB (k : Bool) : Nat → Int → Bool
  | 0, _ => false
  | n + 1, c => inI c && (!(splitS c).isEmpty || (stepS k c).all (deepB k n))
theorem oneN_len {k : Bool} (hs : ∀ c, (stepS k c).length ≤ 3) : ∀ (n : Nat) (c : Int), (oneN k n c).length ≤ 3 ^ n * 3
  | 0, c => by simp [oneN]
  | n + 1, c => by
    have ih := oneN_len hs n
    have hp : 1 ≤ 3 ^ (n + 1) := Nat.one_le_pow _ _ (by omega)
    rw [oneN]
    split
    · split
      · simp only [List.length_cons, List.length_nil]
        omega
      · have key : ∀ l : List Int, (l.flatMap (oneN k n)).length ≤ l.length * (3 ^ n * 3) := fun l => by
          induction l with
          | nil => simp
          | cons x l ihl =>
            rw [List.flatMap_cons, List.length_append, List.length_cons, Nat.succ_mul]
            have := ih x
            omega
        have h1 := key (stepS k c)
        have h2 := Nat.mul_le_mul_right (3 ^ n * 3) (hs c)
        rw [Nat.pow_succ]
        omega
    · have : (splitS c).length ≤ 3 := by
        unfold splitS partsN
        split
        · split <;> simp
        · simp
      omega
set_option maxRecDepth 100000 in
theorem compat_len3 : (tabCompat.all fun m => decide (m.t.length ≤ 3)) = true := by decide +kernel
theorem stepS_len (k : Bool) (c : Int) : (stepS k c).length ≤ 3 := by
  have h1 : (canonS c).length ≤ 3 := by
    unfold canonS rowS
    split
    · split
      · split <;> simp
      · simp
    · simp
  have key : ∀ l : List Mp, (l.all fun m => decide (m.t.length ≤ 3)) = true → (fndM c l).1.t.length ≤ 3 := fun l => by
    induction l with
    | nil => intro _; exact Nat.zero_le _
    | cons m l ih =>
      intro h
      simp only [List.all_cons, Bool.and_eq_true, decide_eq_true_eq] at h
      rw [fndM]
      split
      · exact h.1
      · exact ih h.2
  have h2 : (mapS tabCompat c).length ≤ 3 := by
    unfold mapS
    split
    · exact key _ compat_len3
    · simp
  unfold stepS
  split
  · split
    · exact h2
    · simp
  · exact h1

/-- what is asked of One at so many levels -/
def OneOk (k : Bool) (n : Nat) : Prop := ∀ (B : Nat) (c : Int) (w : World), TabsAt B w → deepB k n c = true →
  Calls Tryz.prog 108 #[.pointer (some ⟨B, 0, none⟩), .int .i64 c, .bool k] w fun e w' => ∃ x, e = .returned x ∧ Sl .i64 w' x (oneN k n c) ∧ Below w.heap.size w w'
def EachOk (k : Bool) (n : Nat) : Prop := ∀ (B : Nat) (v : Value) (s : List Int) (w : World), TabsAt B w → Sl .i64 w v s → (s.all (deepB k n)) = true → s.length * (3 ^ n * 3) ≤ 1000000000 →
  Calls Tryz.prog 89 #[.pointer (some ⟨B, 0, none⟩), v, .bool k] w fun e w' => ∃ x, e = .returned x ∧ Own .i64 3 w.heap.size w' x (s.flatMap (oneN k n)) ∧ Below w.heap.size w w'
theorem each_len (k : Bool) (n : Nat) : ∀ l : List Int, (l.flatMap (oneN k n)).length ≤ l.length * (3 ^ n * 3)
  | [] => by simp
  | x :: l => by
    have := oneN_len (stepS_len k) n x
    have ih := each_len k n l
    rw [List.flatMap_cons, List.length_append, List.length_cons, Nat.succ_mul]
    omega

set_option maxHeartbeats 4000000 in
theorem eachOk {k : Bool} {n : Nat} (h : OneOk k n) : EachOk k n := fun B v s w ht hs hd hl => by
  have HONE := hid h
  have HT := hid ht
  have HS := hid hs
  have HD := hid (fun i (hi : i < s.length) => (show deepB k n (s.getD i 0) = true from by
    have e : s.getD i 0 = s[i] := by rw [List.getD_eq_getElem?_getD, List.getElem?_eq_getElem hi]; rfl
    rw [e]
    exact List.all_eq_true.1 hd _ (List.getElem_mem hi)))
  have HL := hid hl
  have ml := hs.len
  obtain ⟨a1, cap1, rfl, q1, -, h1⟩ := hs
  obtain ⟨m, hm⟩ : ∃ m, m = s.length := ⟨_, rfl⟩
  have H1 := hid h1
  have HM := hid hm
  have HTK := hid (fun j (hj : j < s.length) => (show (s.take (j + 1)).flatMap (oneN k n) = (s.take j).flatMap (oneN k n) ++ oneN k n (s.getD j 0) from by
    have e : s.getD j 0 = s[j] := by rw [List.getD_eq_getElem?_getD, List.getElem?_eq_getElem hj]; rfl
    rw [e, List.take_succ_eq_append_getElem hj, List.flatMap_append]
    simp))
  have HFL := hid (fun j => (show ((s.take j).flatMap (oneN k n)).length ≤ 1000000000 from by
    have h2 := each_len k n (s.take j)
    have h3 : (s.take j).length * (3 ^ n * 3) ≤ s.length * (3 ^ n * 3) := Nat.mul_le_mul_right _ (by rw [List.length_take]; omega)
    omega))
  rw [← hm] at ml q1
  clear h ht hd hl h1
  obtain ⟨F, hF⟩ : ∃ F : Nat → List Int, F = fun j => (s.take j).flatMap (oneN k n) := ⟨_, rfl⟩
  have HF := hid hF
  have hFj : ∀ j, (s.take j).flatMap (oneN k n) = F j := fun j => by rw [hF]
  have hF0 : F 0 = [] := by rw [hF]; rfl
  have hFm : F m = s.flatMap (oneN k n) := by rw [hF, hm]; simp
  have HF0 := hid hF0
  have HFM := hid hFm
  have HTK2 := hid (fun j (hj : j < s.length) => (hFj (j + 1)).symm.trans ((HTK.out j hj).trans (by rw [hFj])))
  have HFL2 := hid (fun j => (show (F j).length ≤ 1000000000 from by rw [← hFj]; exact HFL.out j))
  clear hF hFj hF0 hFm
  rw [← hm]
  clear hm
  go_enter Tryz.func89, Tryz.ntmps89
  go_wp2_with (fail)
  go_loopw [7, 8] (fun lv iv wr => ∃ j : Nat, j ≤ m ∧ iv = .int .i64 j ∧ Hid (Own .i64 3 w.heap.size wr lv (F j)) ∧ Hid (Below w.heap.size w wr)) (fun _ iv _ => m - (intOf iv).toNat)
  case atStart => exact ⟨0, by omega, rfl, by show Own _ _ _ _ _ _; rw [HF0.out]; exact Own.nil _ _ _ _, Below.refl _ _⟩
  case round =>
    obtain ⟨j, hj, rfl, hown, hbel⟩ := hrel
    obtain ⟨al, cl, hal⟩ := hown.out.sl.form
    have hfl := HFL2.out j
    obtain ⟨nf, hnf⟩ : ∃ nf, nf = (F j).length := ⟨_, rfl⟩
    rw [← hnf] at hal hfl
    have HNF := hid hnf
    subst hal
    clear hnf
    by_cases hlt : j < m
    · rcases H1.out with hc | ⟨b1, o1, rfl, hb1, c1⟩
      · omega
      have hjs : j < s.length := by have := HM.out; omega
      have hb1' := hb1 (by omega)
      have d1 := (hbel.out.cell (p := ⟨b1, o1 + j, none⟩) hb1').trans (c1 j hjs)
      have hdj := HD.out j hjs
      have HNX := hid (HTK2.out j hjs)
      have hfn := HFL2.out (j + 1)
      clear c1 hb1 hjs
      generalize s.getD j 0 = x at d1 hdj HNX
      have HDJ := hid hdj
      have hlx : nf + (oneN k n x).length ≤ 1000000000 := by
        have h2 := congrArg List.length HNX.out
        rw [List.length_append] at h2
        have := HNF.out
        omega
      clear hdj hfn
      have HLX := hid hlx
      clear hlx
      have hsz := hbel.out.size
      go_wp2_with (first
        | (at_builtin; go_loud (refine wpList_app _ rfl _ _ 22 rfl .i64 w.heap.size 3 8 Tryz.underlying22 Tryz.infoI64 _ (F j) (oneN k n x) rfl (hown.out.below HB2.out) _ rfl HO2.out (by have := HLX.out; have := HNF.out; unfold maxLen; omega) (by have := HLX.out; have := HNF.out; omega) (by have := HB2.out.size; omega) ?_); intro v5 w5 ho5 hg5 hb5 hn5; clear hg5 hn5)
        | (go_at_call 108; refine (HONE.out B x wr (HT.out.below hbel.out) HDJ.out).mono ?_; rintro e w2 ⟨v2, rfl, ho2, hb2⟩; have HO2 := hid ho2; have HB2 := hid hb2; clear ho2 hb2))
      go_roundw
      case rel =>
        refine ⟨j + 1, by omega, by go_num, ?_, hbel.out.trans ((HB2.out.mono hsz).trans hb5)⟩
        show Own _ _ _ _ _ _
        rw [HNX.out]
        exact ho5
      case measure => simp [intOf]; omega
    · obtain rfl : j = m := by omega
      go_wp2_with (fail)
      go_ret
      exact ⟨_, rfl, by rw [← HFM.out]; have h := hown.out; exact h, hbel.out⟩

set_option maxHeartbeats 4000000 in
theorem oneOk {k : Bool} {n : Nat} (h : EachOk k n) (hn : 3 ^ n * 3 ≤ 100000000) : OneOk k (n + 1) := fun B c w ht hd => by
  have HEACH := hid h
  have HT := hid ht
  have hlen3 := stepS_len k c
  rw [deepB, Bool.and_eq_true] at hd
  obtain ⟨hi, hd⟩ := hd
  obtain ⟨i0, i1⟩ := of_decide_eq_true hi
  have HSP := hid (fun w => refSplit7 c w i0 i1)
  clear h ht hi
  by_cases hsp : splitS c = []
  · rw [hsp] at HSP hd
    have hone : oneN k (n + 1) c = if (stepS k c).isEmpty then [c] else (stepS k c).flatMap (oneN k n) := by rw [oneN, hsp]; rfl
    have hd2 : ((stepS k c).all (deepB k n)) = true := by simpa using hd
    have HD := hid hd2
    have HLN := hid (show (stepS k c).length * (3 ^ n * 3) ≤ 1000000000 from Nat.le_trans (Nat.mul_le_mul_right _ hlen3) (by omega))
    have HCA := hid (fun w h => refTCanon B c w h)
    have HCO := hid (fun w h => refTCompat B c w h)
    obtain ⟨lc, hlc⟩ : ∃ l, l = canonS c := ⟨_, rfl⟩
    have hst : stepS k c = if lc.isEmpty then (if k then mapS tabCompat c else []) else lc := by rw [hlc]; rfl
    rw [← hlc] at HCA
    clear hd hd2 hsp hlen3 hlc
    cases lc with
    | cons x0 l0 =>
      have hs2 : stepS k c = x0 :: l0 := hst
      rw [hs2] at hone HD HLN
      have HONE := hid (show oneN k (n + 1) c = (x0 :: l0).flatMap (oneN k n) from hone)
      obtain ⟨l, hl⟩ : ∃ l, l = x0 :: l0 := ⟨_, rfl⟩
      have hlp : 0 < l.length := by rw [hl]; simp
      rw [← hl] at HONE HD HLN HCA
      obtain ⟨m, hm⟩ : ∃ m, m = l.length := ⟨_, rfl⟩
      rw [← hm] at hlp
      have HM := hid hm
      have hm0 : ((m : Int) == 0) = false := beq_eq_false_iff_ne.2 (by omega)
      clear hst hs2 hone hl hm
      go_enter Tryz.func108, Tryz.ntmps108
      go_wp2_with (first
        | (go_at_call 122; refine (HSP.out _).mono ?_; rintro e w1 ⟨v1, rfl, ho1, hb1⟩; obtain ⟨a1, c1, rfl⟩ := ho1.form; have HB1 := hid hb1; clear ho1 hb1)
        | (go_at_call 123; refine (HCA.out w1 (HT.out.below HB1.out)).mono ?_; rintro e w2 ⟨v2, rfl, ho2, hb2⟩; obtain ⟨a2, c2, hv2⟩ := ho2.form; rw [← HM.out] at hv2; subst hv2; have HO2 := hid ho2; have HB2 := hid (HB1.out.trans (hb2.mono HB1.out.size)); clear ho2 hb2)
        | (go_at_call 89; refine (HEACH.out B _ l w2 (HT.out.below HB2.out) HO2.out HD.out HLN.out).mono ?_; rintro e w3 ⟨v3, rfl, ho3, hb3⟩; have HO3 := hid ho3; have HB3 := hid (HB2.out.trans (hb3.mono HB2.out.size)); clear ho3 hb3))
      go_ret
      exact ⟨_, rfl, by rw [HONE.out]; exact HO3.out.sl, HB3.out⟩
    | nil =>
      cases k with
      | false =>
        have hs2 : stepS false c = [] := hst
        have HONE := hid (show oneN false (n + 1) c = [c] by rw [hone, hs2]; rfl)
        clear hst hs2 hone
        go_enter Tryz.func108, Tryz.ntmps108
        go_wp2_with (first
          | (go_at_call 122; refine (HSP.out _).mono ?_; rintro e w1 ⟨v1, rfl, ho1, hb1⟩; obtain ⟨a1, c1, rfl⟩ := ho1.form; have HB1 := hid hb1; clear ho1 hb1)
          | (go_at_call 123; refine (HCA.out w1 (HT.out.below HB1.out)).mono ?_; rintro e w2 ⟨v2, rfl, ho2, hb2⟩; obtain ⟨a2, c2, rfl⟩ := ho2.form; have HB2 := hid (HB1.out.trans (hb2.mono HB1.out.size)); clear ho2 hb2))
        go_ret
        exact ⟨_, rfl, by rw [HONE.out]; exact lit_sl (by first | simp | rfl) rfl rfl (by simp), HB2.out.alloc HB2.out.size _⟩
      | true =>
        have hs2 : stepS true c = mapS tabCompat c := hst
        rw [hs2] at hone HD HLN
        obtain ⟨l, hl⟩ : ∃ l, l = mapS tabCompat c := ⟨_, rfl⟩
        rw [← hl] at hone HD HLN HCO
        obtain ⟨m, hm⟩ : ∃ m, m = l.length := ⟨_, rfl⟩
        have HM := hid hm
        obtain ⟨z, hz⟩ : ∃ z, z = ((m : Int) == 0) := ⟨_, rfl⟩
        have HZ := hid hz
        replace hz := hz.symm
        clear hst hs2 hl hm
        cases z with
        | true =>
          have HONE := hid (show oneN true (n + 1) c = [c] by
            have h1 := eq_of_beq HZ.out.symm
            have h2 := HM.out
            rw [hone, List.eq_nil_of_length_eq_zero (l := l) (by omega)]
            rfl)
          clear hone
          go_enter Tryz.func108, Tryz.ntmps108
          go_wp2_with (first
            | (go_at_call 122; refine (HSP.out _).mono ?_; rintro e w1 ⟨v1, rfl, ho1, hb1⟩; obtain ⟨a1, c1, rfl⟩ := ho1.form; have HB1 := hid hb1; clear ho1 hb1)
            | (go_at_call 123; refine (HCA.out w1 (HT.out.below HB1.out)).mono ?_; rintro e w2 ⟨v2, rfl, ho2, hb2⟩; obtain ⟨a2, c2, rfl⟩ := ho2.form; have HB2 := hid (HB1.out.trans (hb2.mono HB1.out.size)); clear ho2 hb2)
            | (go_at_call 124; refine (HCO.out w2 (HT.out.below HB2.out)).mono ?_; rintro e w3 ⟨v3, rfl, ho3, hb3⟩; obtain ⟨a3, c3, hv3⟩ := ho3.form; rw [← HM.out] at hv3; subst hv3; have HB3 := hid (HB2.out.trans (hb3.mono HB2.out.size)); clear ho3 hb3))
          go_ret
          exact ⟨_, rfl, by rw [HONE.out]; exact lit_sl (by first | simp | rfl) rfl rfl (by simp), HB3.out.alloc HB3.out.size _⟩
        | false =>
          have HONE := hid (show oneN true (n + 1) c = l.flatMap (oneN true n) by
            have h1 := HZ.out.symm
            rw [beq_eq_false_iff_ne] at h1
            have h2 := HM.out
            cases l with
            | nil => simp at h2; omega
            | cons x l => exact hone)
          clear hone
          go_enter Tryz.func108, Tryz.ntmps108
          go_wp2_with (first
            | (go_at_call 122; refine (HSP.out _).mono ?_; rintro e w1 ⟨v1, rfl, ho1, hb1⟩; obtain ⟨a1, c1, rfl⟩ := ho1.form; have HB1 := hid hb1; clear ho1 hb1)
            | (go_at_call 123; refine (HCA.out w1 (HT.out.below HB1.out)).mono ?_; rintro e w2 ⟨v2, rfl, ho2, hb2⟩; obtain ⟨a2, c2, rfl⟩ := ho2.form; have HB2 := hid (HB1.out.trans (hb2.mono HB1.out.size)); clear ho2 hb2)
            | (go_at_call 124; refine (HCO.out w2 (HT.out.below HB2.out)).mono ?_; rintro e w3 ⟨v3, rfl, ho3, hb3⟩; obtain ⟨a3, c3, hv3⟩ := ho3.form; rw [← HM.out] at hv3; subst hv3; have HO3 := hid ho3; have HB3 := hid (HB2.out.trans (hb3.mono HB2.out.size)); clear ho3 hb3)
            | (go_at_call 89; refine (HEACH.out B _ l w3 (HT.out.below HB3.out) HO3.out HD.out HLN.out).mono ?_; rintro e w4 ⟨v4, rfl, ho4, hb4⟩; have HO4 := hid ho4; have HB4 := hid (HB3.out.trans (hb4.mono HB3.out.size)); clear ho4 hb4))
          go_ret
          exact ⟨_, rfl, by rw [HONE.out]; exact HO4.out.sl, HB4.out⟩
  · have HONE := hid (show oneN k (n + 1) c = splitS c by
      rw [oneN]
      cases hq : splitS c with
      | nil => exact absurd hq hsp
      | cons x l => rfl)
    obtain ⟨l, hl⟩ : ∃ l, l = splitS c := ⟨_, rfl⟩
    rw [← hl] at hsp HSP HONE
    have hlp : 0 < l.length := List.length_pos_iff.2 hsp
    obtain ⟨m, hm⟩ : ∃ m, m = l.length := ⟨_, rfl⟩
    rw [← hm] at hlp
    have HM := hid hm
    clear hd hsp hl hm hlen3
    go_enter Tryz.func108, Tryz.ntmps108
    go_wp2_with (first
      | (go_at_call 122; refine (HSP.out _).mono ?_; rintro e w1 ⟨v1, rfl, ho1, hb1⟩; obtain ⟨a1, c1, hv1⟩ := ho1.form; rw [← HM.out] at hv1; subst hv1; have HO1 := hid ho1; have HB1 := hid hb1; clear ho1 hb1))
    go_ret
    exact ⟨_, rfl, by rw [HONE.out]; exact HO1.out, HB1.out⟩
end Go.Proofs.YtidjjaginindoaaGreat

/-! CsSpec -/
namespace Go.Proofs.YtidjjaginindoaaGreat

/-- the first one of a list of numbers -/
def fndI (p : Int → Bool) : List Int → Int × Bool
  | [] => (0, false)
  | x :: l => if p x then (x, true) else fndI p l
theorem fndI_drop {p : Int → Bool} : ∀ {l : List Int} {k : Nat}, k ≤ l.length → (∀ i, i < k → p (l.getD i 0) = false) → fndI p l = fndI p (l.drop k)
  | _, 0, _, _ => rfl
  | [], k + 1, h, _ => by simp at h
  | x :: l, k + 1, h, ha => by
    have h0 := ha 0 (by omega)
    simp only [List.getD_cons_zero] at h0
    rw [fndI, h0, List.drop_succ_cons]
    exact fndI_drop (by simpa using h) fun i hi => by simpa using ha (i + 1) (by omega)
theorem fndI_hit {p : Int → Bool} {l : List Int} {k : Nat} (h : k < l.length) (ha : ∀ i, i < k → p (l.getD i 0) = false) (hk : p (l.getD k 0) = true) : fndI p l = (l.getD k 0, true) := by
  rw [fndI_drop (by omega) ha, List.drop_eq_getElem_cons h, fndI]
  have e : l.getD k 0 = l[k] := by rw [List.getD_eq_getElem?_getD, List.getElem?_eq_getElem h]; rfl
  rw [e] at hk ⊢
  rw [if_pos hk]
theorem fndI_none {p : Int → Bool} {l : List Int} (ha : ∀ i, i < l.length → p (l.getD i 0) = false) : fndI p l = (0, false) := by
  rw [fndI_drop (Nat.le_refl _) ha, List.drop_length]
  rfl
/-- where the first one stands; -1: there is none -/
def ixS (p : Rg → Bool) : List Rg → Int
  | [] => -1
  | r :: l => if p r then 0 else if ixS p l < 0 then -1 else ixS p l + 1
theorem ixS_drop {p : Rg → Bool} : ∀ {l : List Rg} {k : Nat}, k ≤ l.length → (∀ i, i < k → p (l.getD i noRg) = false) → ixS p l = if ixS p (l.drop k) < 0 then -1 else ixS p (l.drop k) + k
  | [], 0, _, _ => by simp [ixS]
  | r :: l, 0, _, _ => by
    simp only [List.drop_zero]
    unfold ixS
    by_cases h : p r = true
    · rw [if_pos h]; simp
    · rw [if_neg h]
      by_cases h2 : ixS p l < 0
      · rw [if_pos h2]; simp
      · rw [if_neg h2, if_neg (by omega)]; omega
  | [], k + 1, h, _ => by simp at h
  | r :: l, k + 1, h, ha => by
    have h0 := ha 0 (by omega)
    simp only [List.getD_cons_zero] at h0
    have ih := ixS_drop (p := p) (l := l) (k := k) (by simpa using h) fun i hi => by simpa using ha (i + 1) (by omega)
    rw [ixS, h0, List.drop_succ_cons, ih]
    simp only [Bool.false_eq_true, if_false]
    by_cases h2 : ixS p (l.drop k) < 0
    · rw [if_pos h2]; simp; omega
    · rw [if_neg h2, if_neg (by omega)]; omega
theorem ixS_hit {p : Rg → Bool} {l : List Rg} {k : Nat} (h : k < l.length) (ha : ∀ i, i < k → p (l.getD i noRg) = false) (hk : p (l.getD k noRg) = true) : ixS p l = k := by
  rw [ixS_drop (by omega) ha, List.drop_eq_getElem_cons h, ixS]
  have e : l.getD k noRg = l[k] := by rw [List.getD_eq_getElem?_getD, List.getElem?_eq_getElem h]; rfl
  rw [e] at hk
  rw [if_pos hk]
  simp
theorem ixS_none {p : Rg → Bool} {l : List Rg} (ha : ∀ i, i < l.length → p (l.getD i noRg) = false) : ixS p l = -1 := by
  rw [ixS_drop (Nat.le_refl _) ha, List.drop_length]
  rfl
theorem first_or {p : Rg → Bool} : ∀ (l : List Rg), (∃ k, k < l.length ∧ (∀ i, i < k → p (l.getD i noRg) = false) ∧ p (l.getD k noRg) = true) ∨ ∀ i, i < l.length → p (l.getD i noRg) = false
  | [] => .inr fun i hi => by simp at hi
  | r :: l => by
    by_cases h : p r = true
    · exact .inl ⟨0, by simp, fun i hi => by omega, by simpa using h⟩
    · rcases first_or (p := p) l with ⟨k, h1, h2, h3⟩ | h2
      · refine .inl ⟨k + 1, by simpa using h1, fun i hi => ?_, by simpa using h3⟩
        cases i with
        | zero => simpa using h
        | succ i => simpa using h2 i (by omega)
      · refine .inr fun i hi => ?_
        cases i with
        | zero => simpa using h
        | succ i => simpa using h2 i (by simpa using hi)
def getS16 (set place : Int) : Int × Bool := ((fndS (fun r => r.f == set && r.t == place) tabCodes).1.v, (fndS (fun r => r.f == set && r.t == place) tabCodes).2)
def findS16 (set c : Int) : Int × Bool := ((fndS (fun r => r.f == set && r.v == c) tabCodes).1.t, (fndS (fun r => r.f == set && r.v == c) tabCodes).2)
def finB (final : Int) (wide : Bool) (s : Int) : Bool := final != 0 && (finalS s == final && (s == 87) == wide)
def byFinS (final : Int) (wide : Bool) : Int × Bool := fndI (finB final wide) (tabSets ++ [103])
def markS (place : Int) : Int × Int × Bool := ((fndS (fun r => r.f == place) tabAccents).1.t, (fndS (fun r => r.f == place) tabAccents).1.v, (fndS (fun r => r.f == place) tabAccents).2)
def letB (c : Int) : Bool := decide ((65 ≤ c ∧ c ≤ 90) ∨ (97 ≤ c ∧ c ≤ 122))
def accTwo (c : Int) (l : List Int) : Int × Int × Bool :=
  if l.length = 2 ∧ letB (l.getD 0 0) = true then
    (if (pairS (l.getD 0 0) (l.getD 1 0)).2 && (pairS (l.getD 0 0) (l.getD 1 0)).1 == c then
      (if (fndS (fun r => r.t == l.getD 1 0) tabAccents).2 then ((fndS (fun r => r.t == l.getD 1 0) tabAccents).1.f, l.getD 0 0, true) else (0, 0, false)) else (0, 0, false)) else (0, 0, false)
def accS (c : Int) : Int × Int × Bool :=
  if (fndS (fun r => r.v == c) tabAccents).2 then ((fndS (fun r => r.v == c) tabAccents).1.f, 32, true) else accTwo c (canonS c)
end Go.Proofs.YtidjjaginindoaaGreat
