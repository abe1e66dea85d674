/- Several texts in one: Ucd10, Ucd11. -/
import Derived.Test.YtdncmdpacidgmaaPk2
import Derived.Test.YtdncmdpacidgmaaPk6
import Derived.Test.YtdncmdpacidgmaaPk10
import Derived.Test.YtdncmdpacidgmaaPk12
import Derived.Test.YtdncmdpacidgmaaPk14
import Derived.Test.YtdncmdpacidgmaaPk9
import Derived.Test.YtdncmdpacidgmaaPk15
/-! Ucd10 -/
namespace Go.Proofs.Ytdncmdpacidgmaa
open Go.RowKit

def mapS (l : List Mp) (c : Int) : List Int := if scalarB c then (fndM c l).1.t else []
theorem mapS_t {l : List Mp} {c : Int} (h : scalarB c = true) : (fndM c l).1.t = mapS l c := by unfold mapS; rw [h]; rfl
theorem mapS_f {l : List Mp} {c : Int} (h : scalarB c = false) : [] = mapS l c := by unfold mapS; rw [h]; rfl

theorem store_fn (P : Program) (f : Fn) (a : Addr) (m : Mode) (w : World) : (store a (.func f #[] #[]) m).run P w = stored P w a (.func f #[] #[]) m := run_store P w a _ m rfl
theorem ucdMappings (a : Option Addr) (n cap : Nat) (w : World) : Calls Try.prog 39 #[.slice a n cap] w fun e w' => e = .returned (.agg #[.slice a n cap, .func (.func 49) #[] #[]]) ∧ Below w.heap.size w w' := by
  have h9 := store_fn Try.prog (Fn.func 49)
  go_enter Try.func39, Try.ntmps39
  go_wp2_with (fail)
  refine bodyPost_ret (results_one rfl rfl (loadT3 (Box.made _ _ _))) rfl ⟨rfl, by (repeat (first | exact Below.refl _ _ | exact below_drewN _ | refine Below.drew ?_ | refine Below.alloc ?_ (by simp) _ | refine Below.setCell ?_ (by simp) _ | refine below_drewN' ?_ _))⟩

set_option maxHeartbeats 1000000 in
theorem ucdMapped (v : Value) (l : List Mp) (c : Int) (w : World) (h : Sm w v l) : Calls Try.prog 27 #[v, .int .i64 c] w fun e w' => ∃ x, e = .returned x ∧ Sl .i64 w' x (mapS l c) ∧ Below w.heap.size w w' := by
  have HS := hid h
  obtain ⟨av, cv, hv⟩ := h.form
  obtain ⟨n, hn⟩ : ∃ n, n = l.length := ⟨_, rfl⟩
  rw [← hn] at hv
  subst hv
  clear hn h
  obtain ⟨b, hb⟩ : ∃ b, b = scalarB c := ⟨_, rfl⟩
  cases b with
  | false =>
    have HR := hid (mapS_f (l := l) hb.symm)
    have HB := hid hb
    clear hb
    go_enter Try.func27, Try.ntmps27
    go_wp2_with (go_at_call 38; refine (ucdScalar c _).mono ?_; rw [← HB.out]; rintro e w1 ⟨rfl, rfl⟩)
    go_ret
    exact ⟨_, rfl, by rw [← HR.out]; exact sl_nil _ _, Below.refl _ _⟩
  | true =>
    have HR := hid (mapS_t (l := l) hb.symm)
    have HB := hid hb
    clear hb
    go_enter Try.func27, Try.ntmps27
    go_wp2_with (first
      | (go_at_call 38; refine (ucdScalar c _).mono ?_; rw [← HB.out]; rintro e w1 ⟨rfl, rfl⟩)
      | (go_at_call 39; refine (ucdMappings av n cv _).mono ?_; rintro e w2 ⟨rfl, hb2⟩; have HB2 := hid hb2; clear hb2)
      | (go_at_call 40; refine (ucdFindM (.slice av n cv) l c w2 (HS.out.below HB2.out)).mono ?_; rw [HR.out]; rintro e w3 ⟨x3, rfl, hs3, hb3⟩; have HS3 := hid hs3; have HB3 := hid (HB2.out.trans (hb3.mono HB2.out.size)); obtain ⟨a3, c3, hx3⟩ := hs3.form; obtain ⟨n3, hn3⟩ : ∃ n3, n3 = (mapS l c).length := ⟨_, rfl⟩; rw [← hn3] at hx3; subst hx3; clear hs3 hb3 hn3))
    go_ret
    have hb4 : Below w3.heap.size w3 (w3.alloc (.cells #[.int .i64 (fndM c l).1.f, .slice a3 n3 c3] 67)) := by (repeat (first | exact Below.refl _ _ | exact below_drewN _ | refine Below.drew ?_ | refine Below.alloc ?_ (by simp) _ | refine Below.setCell ?_ (by simp) _ | refine below_drewN' ?_ _))
    exact ⟨_, rfl, HS3.out.below hb4, HB3.out.trans (hb4.mono HB3.out.size)⟩

theorem ucdCompat (c : Int) (w : World) : Calls Try.prog 88 #[.int .i64 c] w fun e w' => ∃ x, e = .returned x ∧ Sl .i64 w' x (mapS tabCompat c) ∧ Below w.heap.size w w' := by
  go_enter Try.func88, Try.ntmps88
  go_wp2_with (first
    | (go_at_call 19; refine (apiCompat w).mono ?_; rintro e w1 ⟨v1, rfl, hs1, hb1⟩; have HS1 := hid hs1.sm; have HB1 := hid hb1; clear hs1 hb1)
    | (go_at_call 27; refine (ucdMapped v1 tabCompat c w1 HS1.out).mono ?_; rintro e w2 ⟨x2, rfl, hs2, hb2⟩; have HS2 := hid hs2; have HB2 := hid hb2; clear hs2 hb2))
  go_ret
  exact ⟨_, rfl, HS2.out, HB1.out.trans (HB2.out.mono HB1.out.size)⟩
theorem ucdFold (c : Int) (w : World) : Calls Try.prog 15 #[.int .i64 c] w fun e w' => ∃ x, e = .returned x ∧ Sl .i64 w' x (mapS tabFolds c) ∧ Below w.heap.size w w' := by
  go_enter Try.func15, Try.ntmps15
  go_wp2_with (first
    | (go_at_call 20; refine (apiFolds w).mono ?_; rintro e w1 ⟨v1, rfl, hs1, hb1⟩; have HS1 := hid hs1.sm; have HB1 := hid hb1; clear hs1 hb1)
    | (go_at_call 27; refine (ucdMapped v1 tabFolds c w1 HS1.out).mono ?_; rintro e w2 ⟨x2, rfl, hs2, hb2⟩; have HS2 := hid hs2; have HB2 := hid hb2; clear hs2 hb2))
  go_ret
  exact ⟨_, rfl, HS2.out, HB1.out.trans (HB2.out.mono HB1.out.size)⟩

theorem OwnG.far6 {e base : Nat} {w : World} {v : Value} {l : List Rg} (h : OwnG e base w v l) {B : Nat} (hB : B < base) (j : Nat) (u : Value) : OwnG e base (w.setCell ⟨B, j, none⟩ u) v l := by
  obtain ⟨h1, h2⟩ := h
  refine ⟨h1, ?_⟩
  rcases h2 with h2 | ⟨g, cap, cur, hv, hg, hh, r⟩
  · exact .inl h2
  · refine .inr ⟨g, cap, cur, hv, hg, ?_, r⟩
    rw [Below.heap_setCell _ _ _ _ (fun e => by simp only at e; omega)]
    exact hh
theorem ucdDecompositions (w : World) : Calls Try.prog 89 #[] w fun e w' => ∃ v, e = .returned (.agg #[v, .func (.func 91) #[] #[]]) ∧ Sg w' v tabCanon ∧ Below w.heap.size w w' := by
  go_enter Try.func89, Try.ntmps89
  have h9 := store_fn Try.prog (Fn.func 91)
  have HB0 := hid (show Below w.heap.size w (w.alloc (.cells #[.slice none 0 0, .nilFunc] 118)) by (repeat (first | exact Below.refl _ _ | exact below_drewN _ | refine Below.drew ?_ | refine Below.alloc ?_ (by simp) _ | refine Below.setCell ?_ (by simp) _ | refine below_drewN' ?_ _)))
  have HX := hid (Box.made w 118 [.slice none 0 0, .nilFunc])
  go_wp2_with (go_at_call 18; refine (apiCanon _).mono ?_; rintro e w1 ⟨v1, rfl, ho1, hb1⟩; obtain ⟨a1, c1, hv1⟩ := ho1.form; obtain ⟨n, hn⟩ : ∃ n, n = tabCanon.length := ⟨_, rfl⟩; rw [← hn] at hv1; subst hv1; have HO1 := hid ho1; have HB1 := hid (HB0.out.trans (hb1.mono HB0.out.size)); have HX1 := hid (HX.out.below hb1 HX.out.lt); clear ho1 hb1 hn; have z0 := HX1.out.ice 0; have z1 := HX1.out.ice 1; have y0 := HX1.out.cell 0; have y1 := HX1.out.cell 1; simp only [List.getElem?_cons_zero, List.getElem?_cons_succ] at y0 y1)
  have hlt : w.heap.size < (w.alloc (.cells #[.slice none 0 0, .nilFunc] 118)).heap.size := by simp
  refine bodyPost_ret (results_one rfl rfl (loadT1 (HX1.out.pair _ _))) rfl ⟨_, rfl, ((HO1.out.far6 hlt 0 _).far6 hlt 1 _).sg, below_pair HB1.out (Nat.le_refl _)⟩

/-- the canonical decomposition that a row tells -/
def rowS (r : Rg × Bool) : List Int := if r.2 then (if r.1.v == 0 then [r.1.t] else [r.1.t, r.1.v]) else []
def canonS (c : Int) : List Int := if scalarB c then rowS (fndS (fun r => r.f == c) tabCanon) else []
theorem canonS_t {c : Int} (h : scalarB c = true) : rowS (fndS (fun r => r.f == c) tabCanon) = canonS c := by unfold canonS; rw [h]; rfl
theorem canonS_f {c : Int} (h : scalarB c = false) : [] = canonS c := by unfold canonS; rw [h]; rfl

set_option maxHeartbeats 2000000 in
theorem ucdCanon (c : Int) (w : World) : Calls Try.prog 87 #[.int .i64 c] w fun e w' => ∃ x, e = .returned x ∧ Sl .i64 w' x (canonS c) ∧ Below w.heap.size w w' := by
  obtain ⟨b, hb⟩ : ∃ b, b = scalarB c := ⟨_, rfl⟩
  cases b with
  | false =>
    have HR := hid (canonS_f hb.symm)
    have HB := hid hb
    clear hb
    go_enter Try.func87, Try.ntmps87
    go_wp2_with (go_at_call 38; refine (ucdScalar c _).mono ?_; rw [← HB.out]; rintro e w1 ⟨rfl, rfl⟩)
    go_ret
    exact ⟨_, rfl, by rw [← HR.out]; exact sl_nil _ _, Below.refl _ _⟩
  | true =>
    have hr := canonS_t hb.symm
    have HB := hid hb
    clear hb
    obtain ⟨R, hR⟩ : ∃ R, R = fndS (fun r => r.f == c) tabCanon := ⟨_, rfl⟩
    rw [← hR] at hr
    obtain ⟨⟨f, t, v⟩, ok⟩ := R
    have HF := hid (fun (w : World) (x : Value) (h : Sg w x tabCanon) => (show Calls Try.prog 90 #[.agg #[x, .func (.func 91) #[] #[]], .int .i64 c] w fun e w' => e = .returned (.tuple #[.agg #[.int .i64 f, .int .i64 t, .int .i64 v], .bool ok]) ∧ Below w.heap.size w w' by have := ucdFind1 x tabCanon c w h; rw [← hR] at this; exact this))
    clear hR
    cases ok with
    | false =>
      have HR := hid (show [] = canonS c from hr)
      clear hr
      go_enter Try.func87, Try.ntmps87
      go_wp2_with (first
        | (go_at_call 38; refine (ucdScalar c _).mono ?_; rw [← HB.out]; rintro e w1 ⟨rfl, rfl⟩)
        | (go_at_call 89; refine (ucdDecompositions _).mono ?_; rintro e w2 ⟨v2, rfl, hs2, hb2⟩; have HS2 := hid hs2; have HB2 := hid hb2; clear hs2 hb2)
        | (go_at_call 90; refine (HF.out w2 v2 HS2.out).mono ?_; rintro e w3 ⟨rfl, hb3⟩; have HB3 := hid (HB2.out.trans (hb3.mono HB2.out.size)); clear hb3))
      go_ret
      exact ⟨_, rfl, by rw [← HR.out]; exact sl_nil _ _, HB3.out.alloc HB3.out.size _⟩
    | true =>
      obtain ⟨y, hy⟩ : ∃ y, y = (v == 0) := ⟨_, rfl⟩
      have hr2 : (if y then [t] else [t, v]) = canonS c := by rw [hy]; exact hr
      clear hr
      replace hy := hy.symm
      cases y with
      | true =>
        have HR := hid (show [t] = canonS c from hr2)
        clear hr2
        go_enter Try.func87, Try.ntmps87
        go_wp2_with (first
          | (go_at_call 38; refine (ucdScalar c _).mono ?_; rw [← HB.out]; rintro e w1 ⟨rfl, rfl⟩)
          | (go_at_call 89; refine (ucdDecompositions _).mono ?_; rintro e w2 ⟨v2, rfl, hs2, hb2⟩; have HS2 := hid hs2; have HB2 := hid hb2; clear hs2 hb2)
          | (go_at_call 90; refine (HF.out w2 v2 HS2.out).mono ?_; rintro e w3 ⟨rfl, hb3⟩; have HB3 := hid (HB2.out.trans (hb3.mono HB2.out.size)); clear hb3))
        go_ret
        have HB4 := HB3.out.alloc HB3.out.size (.cells #[.int .i64 f, .int .i64 t, .int .i64 v] 53)
        exact ⟨_, rfl, by rw [← HR.out]; exact lit_sl (by first | simp | rfl) rfl rfl (by simp), HB4.alloc HB4.size _⟩
      | false =>
        have HR := hid (show [t, v] = canonS c from hr2)
        clear hr2
        go_enter Try.func87, Try.ntmps87
        go_wp2_with (first
          | (go_at_call 38; refine (ucdScalar c _).mono ?_; rw [← HB.out]; rintro e w1 ⟨rfl, rfl⟩)
          | (go_at_call 89; refine (ucdDecompositions _).mono ?_; rintro e w2 ⟨v2, rfl, hs2, hb2⟩; have HS2 := hid hs2; have HB2 := hid hb2; clear hs2 hb2)
          | (go_at_call 90; refine (HF.out w2 v2 HS2.out).mono ?_; rintro e w3 ⟨rfl, hb3⟩; have HB3 := hid (HB2.out.trans (hb3.mono HB2.out.size)); clear hb3))
        go_ret
        have HB4 := HB3.out.alloc HB3.out.size (.cells #[.int .i64 f, .int .i64 t, .int .i64 v] 53)
        exact ⟨_, rfl, by rw [← HR.out]; exact lit_sl (by first | simp | rfl) rfl rfl (by simp), HB4.alloc HB4.size _⟩
end Go.Proofs.Ytdncmdpacidgmaa

/-! Ucd11 -/
namespace Go.Proofs.Ytdncmdpacidgmaa
open Go.RowKit
open Go.Great (wp_anyFrame)

theorem apiClassesO (w : World) : Calls Try.prog 22 #[] w fun e w' => ∃ v, e = .returned v ∧ OwnG 69 w.heap.size w' v tabClasses ∧ Below w.heap.size w w' := by
  refine calls_of_wp Try.func22 rfl ?_
  refine wp_anyFrame 28 (by as_aux_lemma => kernel_rfl) rfl fun a0 hs0 hd0 => ?_
  apply wp_seq_k; intro K0 hK0
  apply wp_region_lit
  refine Go.Great.wpList_readTo rfl (some 0) rfl (.slice none 0 0) rfl ?_
  apply wpList_nil
  refine hK0 _ _ ?_
  clear hK0 K0
  refine wp_anyFrame 28 (by simp only [Act.size_put, hs0]) (by simp only [Act.defers_put', hd0]) fun a1 hs1 hd1 => ?_
  apply wp_seq_k; intro K1 hK1
  apply wp_region_lit
  refine Go.Great.wpList_splitAt 26 (Go.Great.rgOps 69 "tables.go:80" .i64 1 (tri tabClasses)) (by as_aux_lemma => kernel_rfl) ?_
  refine Go.Great.wpList_rgs 69 "tables.go:80" .i64 (fun _ _ _ => by as_aux_lemma => kernel_rfl) _ 1 _ (by rw [hs1]; exact Nat.le_of_ble_eq_true (by as_aux_lemma => kernel_rfl)) fun b hb hbd hev _ => ?_
  refine Go.Great.wpList_buildRgs rfl 41 69 _ .i64 (tri tabClasses).toArray rfl 1 w.heap.size rfl (some 27) rfl (by as_aux_lemma => kernel_rfl) (by as_aux_lemma => kernel_rfl) (by as_aux_lemma => kernel_rfl) (by decide) (by decide) (by as_aux_lemma => kernel_rfl) hev ?_
  refine Go.Great.wpList_readTo rfl (some 0) rfl (.slice (some ⟨w.heap.size, 0, none⟩) 26 26) ?_ ?_
  · have := Act.eval_put_same b 27 (.slice (some ⟨w.heap.size, 0, none⟩) 26 26) (by rw [hb, hs1]; omega)
    exact congrArg (fun v => Result.ok (Next.value v) _) this
  apply wpList_nil
  refine hK1 _ _ ?_
  refine wp_ret (bodyPost_ret (results_tmp rfl _ _ _) (by simp only [Act.defers_put', hbd, hd1]) ⟨_, rfl, ?_, by (repeat (first | exact Below.refl _ _ | exact below_drewN _ | refine Below.drew ?_ | refine Below.alloc ?_ (by simp) _ | refine Below.setCell ?_ (by simp) _ | refine below_drewN' ?_ _))⟩)
  have := Act.eval_put_same (b.put (some 27) (.slice (some ⟨w.heap.size, 0, none⟩) 26 26)) 0 (.slice (some ⟨w.heap.size, 0, none⟩) 26 26) (by rw [Act.size_put, hb, hs1]; omega)
  rw [show ∀ a : Act, a.tmps.getD 0 undef = a.eval (.tmp 0) from fun _ => rfl]
  exact (congrArg (fun v => OwnG _ _ _ v tabClasses) this).mpr (ownG_made rfl (by as_aux_lemma => kernel_rfl) (Nat.le_refl _) ((tri_cells (by decide)).trans gv_tri) (by decide))


def exclL : List Int := [836, 2392, 2393, 64285, 64298, 64299]
theorem apiExcludedO (w : World) : Calls Try.prog 21 #[] w fun e w' => ∃ v, e = .returned v ∧ Own .i64 3 w.heap.size w' v exclL ∧ Below w.heap.size w w' := by
  go_enter Try.func21, Try.ntmps21
  go_wp2_with (fail)
  go_ret
  exact ⟨_, rfl, lit_own (by first | simp | rfl) (Nat.le_refl _) rfl rfl (by decide), by (repeat (first | exact Below.refl _ _ | exact below_drewN _ | refine Below.drew ?_ | refine Below.alloc ?_ (by simp) _ | refine Below.setCell ?_ (by simp) _ | refine below_drewN' ?_ _))⟩

/-- what else is owned stays when a row of another type turns -/
theorem ownG_row {w w' : World} {base e size n : Nat} {v : Value} {cs : List Value} (h : w.ownsRow base e size v n cs) {e2 base2 : Nat} {u : Value} {l : List Rg} (ho : OwnG e2 base2 w u l) (ht : e2 ≠ e) (hg : w.grownBy w' v.ownBlock) : OwnG e2 base2 w' u l := by
  refine World.ownsRow.kept ho hg ?_
  cases hb : u.ownBlock with
  | none => exact .inl rfl
  | some c =>
    refine .inr fun hrow => ?_
    rcases h.2 with ⟨rfl, _⟩ | ⟨g, cap, cur, rfl, _, hg1, _⟩
    · simp [Value.ownBlock] at hrow
    · rcases ho.2 with ⟨rfl, _⟩ | ⟨g2, cap2, cur2, rfl, _, hg2, _⟩
      · simp [Value.ownBlock] at hb
      · simp [Value.ownBlock] at hrow hb
        subst hrow hb
        rw [hg1] at hg2
        simp at hg2
        exact ht hg2.2.symm
theorem delAt {B1 B2 g n cap base b2 b3 : Nat} {ve vc : Value} {excl : List Int} {l cls : List Rg} {w : World} (h : OwnG 53 base w (.slice (some ⟨g, 0, none⟩) n cap) l) (he : Own .i64 3 b2 w ve excl) (hc : OwnG 69 b3 w vc cls)
    (h1 : w.cell? ⟨B1, 0, none⟩ = some ve) (h2 : w.cell? ⟨B2, 0, none⟩ = some vc) (n1 : B1 ≠ g) (n2 : B2 ≠ g) : DelAt (delS excl cls) B1 B2 g w := fun wr hgr a b c => by
  have hg' : w.grownBy wr (Value.slice (some ⟨g, 0, none⟩) n cap).ownBlock := hgr
  have k1 : wr.cell? ⟨B1, 0, none⟩ = w.cell? ⟨B1, 0, none⟩ := by
    have e : wr.heap[B1]? = w.heap[B1]? := hgr.block B1 (World.block_lt_of_cell? w _ h1) (fun h => n1 (by injection h))
    simp only [World.cell?, e]
  have k2 : wr.cell? ⟨B2, 0, none⟩ = w.cell? ⟨B2, 0, none⟩ := by
    have e : wr.heap[B2]? = w.heap[B2]? := hgr.block B2 (World.block_lt_of_cell? w _ h2) (fun h => n2 (by injection h))
    simp only [World.cell?, e]
  exact ucdDel B1 B2 ve vc excl cls a b c wr (k1.trans h1) (own_row h he (by decide) hg').sl (k2.trans h2) (ownG_row h hc (by decide) hg').sg

set_option maxHeartbeats 2000000 in
theorem ucdComposed (g n cap base b2 b3 : Nat) (a2 a3 : Option Addr) (m2 c2 m3 c3 : Nat) (l cls : List Rg) (excl : List Int) (w : World) (h : OwnG 53 base w (.slice (some ⟨g, 0, none⟩) n cap) l) (he : Own .i64 3 b2 w (.slice a2 m2 c2) excl) (hc : OwnG 69 b3 w (.slice a3 m3 c3) cls) :
    Calls Try.prog 41 #[.slice (some ⟨g, 0, none⟩) n cap, .slice a2 m2 c2, .slice a3 m3 c3] w fun e w' => ∃ k, e = .returned (.slice (some ⟨g, 0, none⟩) k cap) ∧ OwnG 53 base w' (.slice (some ⟨g, 0, none⟩) k cap) (l.filter fun r => !delS excl cls r) ∧ w.grownBy w' (some g) := by
  obtain ⟨-, -, -, -, cur, hcg, -⟩ := h.block
  have hglt : g < w.heap.size := (Array.getElem?_eq_some_iff.1 hcg).1
  have hb : Below w.heap.size w ((w.alloc (.cells #[.slice a2 m2 c2] 22)).alloc (.cells #[.slice a3 m3 c3] 41)) := by (repeat (first | exact Below.refl _ _ | exact below_drewN _ | refine Below.drew ?_ | refine Below.alloc ?_ (by simp) _ | refine Below.setCell ?_ (by simp) _ | refine below_drewN' ?_ _))
  have HB := hid hb
  have HO := hid (h.below hb)
  have x1 := ((Box.made w 22 [.slice a2 m2 c2]).alloc (.cells #[.slice a3 m3 c3] 41)).cell 0
  have x2 := (box_last w (.cells #[.slice a2 m2 c2] 22) 41 [.slice a3 m3 c3]).cell 0
  simp only [List.getElem?_cons_zero] at x1 x2
  have HD := hid (delAt (h.below hb) (he.below hb) (hc.below hb) x1 x2 (by omega) (by omega))
  clear h he hc hb x1 x2 hcg
  go_enter Try.func41, Try.ntmps41
  go_wp2_with (go_at_call 50; refine (slicesDeleteFunc _ _ _ g n cap base l _ HO.out HD.out).mono ?_; rintro e w1 ⟨k, rfl, ho1, hg1⟩; have HO1 := hid ho1; have HG1 := hid hg1; clear ho1 hg1)
  go_ret
  exact ⟨k, rfl, HO1.out, grown_trans (grown_below HB.out _) HG1.out⟩

def tabPair : List Rg := tabCanon.filter fun r => !delS exclL tabClasses r
theorem canon_pos : 0 < tabCanon.length := by
  unfold tabCanon
  rw [List.length_append]
  have : 0 < canonHead.length := by decide
  omega
theorem box_other {t : TypeId} {cs : List Value} {B g : Nat} {w w' : World} (h : Box t cs B w) (hg : w.grownBy w' (some g)) (hn : B ≠ g) : Box t cs B w' := (hg.block B h.lt (fun e => hn (by injection e))).trans h
set_option maxHeartbeats 2000000 in
theorem ucdComposites (w : World) : Calls Try.prog 28 #[] w fun e w' => ∃ v, e = .returned (.agg #[v, .func (.func 42) #[] #[]]) ∧ Sg w' v tabPair ∧ Below w.heap.size w w' := by
  have h9 := store_fn Try.prog (Fn.func 42)
  have HB0 := hid (show Below w.heap.size w (w.alloc (.cells #[.slice none 0 0, .nilFunc] 57)) by (repeat (first | exact Below.refl _ _ | exact below_drewN _ | refine Below.drew ?_ | refine Below.alloc ?_ (by simp) _ | refine Below.setCell ?_ (by simp) _ | refine below_drewN' ?_ _)))
  have HX := hid (Box.made w 57 [.slice none 0 0, .nilFunc])
  have hs0 : (w.alloc (.cells #[.slice none 0 0, .nilFunc] 57)).heap.size = w.heap.size + 1 := by simp
  have HS0 := hid hs0
  clear hs0
  go_enter Try.func28, Try.ntmps28
  go_wp2_with (first
    | (go_at_call 18; refine (apiCanon _).mono ?_; rintro e w1 ⟨v1, rfl, ho1, hb1⟩; obtain ⟨g1, c1, hv1, hg1, _⟩ := World.ownsRow.form ho1 canon_pos; obtain ⟨n, hn⟩ : ∃ n, n = tabCanon.length := ⟨_, rfl⟩; rw [← hn] at hv1; subst hv1; have HO1 := hid ho1; have HB1 := hid hb1; have HX1 := hid (HX.out.below hb1 HX.out.lt); have HG1 := hid hg1; clear ho1 hb1 hn hg1)
    | (go_at_call 21; refine (apiExcludedO w1).mono ?_; rintro e w2 ⟨v2, rfl, ho2, hb2⟩; obtain ⟨a2, c2, hv2⟩ := ho2.sl.form; obtain ⟨m2, hm2⟩ : ∃ n, n = exclL.length := ⟨_, rfl⟩; rw [← hm2] at hv2; subst hv2; have HO2 := hid ho2; have HB2 := hid hb2; clear ho2 hb2 hm2)
    | (go_at_call 22; refine (apiClassesO w2).mono ?_; rintro e w3 ⟨v3, rfl, ho3, hb3⟩; obtain ⟨a3, c3, hv3⟩ := ho3.form; obtain ⟨m3, hm3⟩ : ∃ n, n = tabClasses.length := ⟨_, rfl⟩; rw [← hm3] at hv3; subst hv3; have HO3 := hid ho3; have HB3 := hid hb3; clear ho3 hb3 hm3)
    | (go_at_call 41; refine (ucdComposed g1 n c1 _ _ _ a2 a3 m2 c2 m3 c3 tabCanon tabClasses exclL w3 ((HO1.out.below HB2.out).below HB3.out) (HO2.out.below HB3.out) HO3.out).mono ?_; rintro e w4 ⟨k4, rfl, ho4, hg4⟩; have HX4 := hid (box_other ((HX1.out.below HB2.out HX1.out.lt).below HB3.out (Nat.lt_of_lt_of_le HX1.out.lt HB2.out.size)) hg4 (by have := HG1.out; have := HS0.out; omega)); have HO4 := hid ho4; have HG4 := hid hg4; clear ho4 hg4; have z0 := HX4.out.ice 0; have z1 := HX4.out.ice 1; have y0 := HX4.out.cell 0; have y1 := HX4.out.cell 1; simp only [List.getElem?_cons_zero, List.getElem?_cons_succ] at y0 y1))
  have hlt : w.heap.size < (w.alloc (.cells #[.slice none 0 0, .nilFunc] 57)).heap.size := by rw [HS0.out]; omega
  have k1 := HB0.out.trans (HB1.out.mono HB0.out.size)
  have k2 := k1.trans (HB2.out.mono k1.size)
  have k3 := k2.trans (HB3.out.mono k2.size)
  have k4 := k3.grown HG4.out k3.size (fun k hk => by injection hk with hk; have := HG1.out; have := HS0.out; omega)
  refine bodyPost_ret (results_one rfl rfl (loadT2 (HX4.out.pair _ _))) rfl ⟨_, rfl, ((HO4.out.far6 hlt 0 _).far6 hlt 1 _).sg, below_pair k4 (Nat.le_refl _)⟩

/-- what two scalars compose, and whether they do -/
def pairS (a b : Int) : Int × Bool := ((fndS (fun r => r.t == a && r.v == b) tabPair).1.f, (fndS (fun r => r.t == a && r.v == b) tabPair).2)
set_option maxHeartbeats 2000000 in
theorem ucdPair (a b : Int) (w : World) : Calls Try.prog 16 #[.int .i64 a, .int .i64 b] w fun e w' => e = .returned (.tuple #[.int .i64 (pairS a b).1, .bool (pairS a b).2]) ∧ Below w.heap.size w w' := by
  unfold pairS
  obtain ⟨R, hR⟩ : ∃ R, R = fndS (fun r => r.t == a && r.v == b) tabPair := ⟨_, rfl⟩
  rw [← hR]
  obtain ⟨⟨f, t, v⟩, ok⟩ := R
  have HF := hid (fun (w : World) (x : Value) (h : Sg w x tabPair) => (show Calls Try.prog 29 #[.agg #[x, .func (.func 42) #[] #[]], .agg #[.int .i64 a, .int .i64 b]] w fun e w' => e = .returned (.tuple #[.agg #[.int .i64 f, .int .i64 t, .int .i64 v], .bool ok]) ∧ Below w.heap.size w w' by have := ucdFind2 x tabPair a b w h; rw [← hR] at this; exact this))
  clear hR
  simp only
  go_enter Try.func16, Try.ntmps16
  go_wp2_with (first
    | (go_at_call 28; refine (ucdComposites _).mono ?_; rintro e w2 ⟨v2, rfl, hs2, hb2⟩; have HS2 := hid hs2; have HB2 := hid hb2; clear hs2 hb2)
    | (go_at_call 29; refine (HF.out w2 v2 HS2.out).mono ?_; rintro e w3 ⟨rfl, hb3⟩; have HB3 := hid (HB2.out.trans (hb3.mono HB2.out.size)); clear hb3))
  go_ret2
  exact ⟨rfl, HB3.out.alloc HB3.out.size _⟩
end Go.Proofs.Ytdncmdpacidgmaa
