/- Several texts in one: Ucd10, Ucd4, Ucd11, TwinInts. -/
import Derived.Test.YtjiheplifmakpaaPk2
import Derived.Test.YtjiheplifmakpaaPk4
import Derived.Test.YtjiheplifmakpaaPk5
import Derived.Test.YtjiheplifmakpaaPk7
import Derived.Test.YtjiheplifmakpaaPk9
import Derived.Test.YtjiheplifmakpaaPk3
/-! Ucd10 -/
namespace Go.Proofs.Ytjiheplifmakpaa
open Go.RowKit

def mapS (l : List Mp) (c : Int) : List Int := if scalarB c then (fndM c l).1.t else []
theorem mapS_t {l : List Mp} {c : Int} (h : scalarB c = true) : (fndM c l).1.t = mapS l c := by unfold mapS; rw [h]; rfl
theorem mapS_f {l : List Mp} {c : Int} (h : scalarB c = false) : [] = mapS l c := by unfold mapS; rw [h]; rfl

theorem store_fn (P : Program) (f : Fn) (a : Addr) (m : Mode) (w : World) : (store a (.func f #[] #[]) m).run P w = stored P w a (.func f #[] #[]) m := run_store P w a _ m rfl
theorem ucdMappings (a : Option Addr) (n cap : Nat) (w : World) : Calls Try.prog 44 #[.slice a n cap] w fun e w' => e = .returned (.agg #[.slice a n cap, .func (.func 48) #[] #[]]) ∧ Below w.heap.size w w' := by
  have h9 := store_fn Try.prog (Fn.func 48)
  go_enter Try.func44, Try.ntmps44
  go_wp2_with (fail)
  refine bodyPost_ret (results_one rfl rfl (loadT3 (Box.made _ _ _))) rfl ⟨rfl, by (repeat (first | exact Below.refl _ _ | exact below_drewN _ | refine Below.drew ?_ | refine Below.alloc ?_ (by simp) _ | refine Below.setCell ?_ (by simp) _ | refine below_drewN' ?_ _))⟩

set_option maxHeartbeats 1000000 in
theorem ucdMapped (v : Value) (l : List Mp) (c : Int) (w : World) (h : Sm w v l) : Calls Try.prog 33 #[v, .int .i64 c] w fun e w' => ∃ x, e = .returned x ∧ Sl .i64 w' x (mapS l c) ∧ Below w.heap.size w w' := by
  have HS := hid h
  obtain ⟨av, cv, hv⟩ := h.form
  obtain ⟨n, hn⟩ : ∃ n, n = l.length := ⟨_, rfl⟩
  rw [← hn] at hv
  subst hv
  clear hn h
  obtain ⟨b, hb⟩ : ∃ b, b = scalarB c := ⟨_, rfl⟩
  cases b with
  | false =>
    have HR := hid (mapS_f (l := l) hb.symm)
    have HB := hid hb
    clear hb
    go_enter Try.func33, Try.ntmps33
    go_wp2_with (go_at_call 30; refine (ucdScalar c _).mono ?_; rw [← HB.out]; rintro e w1 ⟨rfl, rfl⟩)
    go_ret
    exact ⟨_, rfl, by rw [← HR.out]; exact sl_nil _ _, Below.refl _ _⟩
  | true =>
    have HR := hid (mapS_t (l := l) hb.symm)
    have HB := hid hb
    clear hb
    go_enter Try.func33, Try.ntmps33
    go_wp2_with (first
      | (go_at_call 30; refine (ucdScalar c _).mono ?_; rw [← HB.out]; rintro e w1 ⟨rfl, rfl⟩)
      | (go_at_call 44; refine (ucdMappings av n cv _).mono ?_; rintro e w2 ⟨rfl, hb2⟩; have HB2 := hid hb2; clear hb2)
      | (go_at_call 45; refine (ucdFindM (.slice av n cv) l c w2 (HS.out.below HB2.out)).mono ?_; rw [HR.out]; rintro e w3 ⟨x3, rfl, hs3, hb3⟩; have HS3 := hid hs3; have HB3 := hid (HB2.out.trans (hb3.mono HB2.out.size)); obtain ⟨a3, c3, hx3⟩ := hs3.form; obtain ⟨n3, hn3⟩ : ∃ n3, n3 = (mapS l c).length := ⟨_, rfl⟩; rw [← hn3] at hx3; subst hx3; clear hs3 hb3 hn3))
    go_ret
    have hb4 : Below w3.heap.size w3 (w3.alloc (.cells #[.int .i64 (fndM c l).1.f, .slice a3 n3 c3] 69)) := by (repeat (first | exact Below.refl _ _ | exact below_drewN _ | refine Below.drew ?_ | refine Below.alloc ?_ (by simp) _ | refine Below.setCell ?_ (by simp) _ | refine below_drewN' ?_ _))
    exact ⟨_, rfl, HS3.out.below hb4, HB3.out.trans (hb4.mono HB3.out.size)⟩

theorem ucdCompat (c : Int) (w : World) : Calls Try.prog 16 #[.int .i64 c] w fun e w' => ∃ x, e = .returned x ∧ Sl .i64 w' x (mapS tabCompat c) ∧ Below w.heap.size w w' := by
  go_enter Try.func16, Try.ntmps16
  go_wp2_with (first
    | (go_at_call 19; refine (apiCompat w).mono ?_; rintro e w1 ⟨v1, rfl, hs1, hb1⟩; have HS1 := hid hs1.sm; have HB1 := hid hb1; clear hs1 hb1)
    | (go_at_call 33; refine (ucdMapped v1 tabCompat c w1 HS1.out).mono ?_; rintro e w2 ⟨x2, rfl, hs2, hb2⟩; have HS2 := hid hs2; have HB2 := hid hb2; clear hs2 hb2))
  go_ret
  exact ⟨_, rfl, HS2.out, HB1.out.trans (HB2.out.mono HB1.out.size)⟩
theorem OwnG.far6 {e base : Nat} {w : World} {v : Value} {l : List Rg} (h : OwnG e base w v l) {B : Nat} (hB : B < base) (j : Nat) (u : Value) : OwnG e base (w.setCell ⟨B, j, none⟩ u) v l := by
  obtain ⟨h1, h2⟩ := h
  refine ⟨h1, ?_⟩
  rcases h2 with h2 | ⟨g, cap, cur, hv, hg, hh, r⟩
  · exact .inl h2
  · refine .inr ⟨g, cap, cur, hv, hg, ?_, r⟩
    rw [Below.heap_setCell _ _ _ _ (fun e => by simp only at e; omega)]
    exact hh
theorem ucdDecompositions (w : World) : Calls Try.prog 31 #[] w fun e w' => ∃ v, e = .returned (.agg #[v, .func (.func 43) #[] #[]]) ∧ Sg w' v tabCanon ∧ Below w.heap.size w w' := by
  go_enter Try.func31, Try.ntmps31
  have h9 := store_fn Try.prog (Fn.func 43)
  have HB0 := hid (show Below w.heap.size w (w.alloc (.cells #[.slice none 0 0, .nilFunc] 58)) by (repeat (first | exact Below.refl _ _ | exact below_drewN _ | refine Below.drew ?_ | refine Below.alloc ?_ (by simp) _ | refine Below.setCell ?_ (by simp) _ | refine below_drewN' ?_ _)))
  have HX := hid (Box.made w 58 [.slice none 0 0, .nilFunc])
  go_wp2_with (go_at_call 18; refine (apiCanon _).mono ?_; rintro e w1 ⟨v1, rfl, ho1, hb1⟩; obtain ⟨a1, c1, hv1⟩ := ho1.form; obtain ⟨n, hn⟩ : ∃ n, n = tabCanon.length := ⟨_, rfl⟩; rw [← hn] at hv1; subst hv1; have HO1 := hid ho1; have HB1 := hid (HB0.out.trans (hb1.mono HB0.out.size)); have HX1 := hid (HX.out.below hb1 HX.out.lt); clear ho1 hb1 hn; have z0 := HX1.out.ice 0; have z1 := HX1.out.ice 1; have y0 := HX1.out.cell 0; have y1 := HX1.out.cell 1; simp only [List.getElem?_cons_zero, List.getElem?_cons_succ] at y0 y1)
  have hlt : w.heap.size < (w.alloc (.cells #[.slice none 0 0, .nilFunc] 58)).heap.size := by simp
  refine bodyPost_ret (results_one rfl rfl (loadT1 (HX1.out.pair _ _))) rfl ⟨_, rfl, ((HO1.out.far6 hlt 0 _).far6 hlt 1 _).sg, below_pair HB1.out (Nat.le_refl _)⟩

/-- the canonical decomposition that a row tells -/
def rowS (r : Rg × Bool) : List Int := if r.2 then (if r.1.v == 0 then [r.1.t] else [r.1.t, r.1.v]) else []
def canonS (c : Int) : List Int := if scalarB c then rowS (fndS (fun r => r.f == c) tabCanon) else []
theorem canonS_t {c : Int} (h : scalarB c = true) : rowS (fndS (fun r => r.f == c) tabCanon) = canonS c := by unfold canonS; rw [h]; rfl
theorem canonS_f {c : Int} (h : scalarB c = false) : [] = canonS c := by unfold canonS; rw [h]; rfl

set_option maxHeartbeats 2000000 in
theorem ucdCanon (c : Int) (w : World) : Calls Try.prog 15 #[.int .i64 c] w fun e w' => ∃ x, e = .returned x ∧ Sl .i64 w' x (canonS c) ∧ Below w.heap.size w w' := by
  obtain ⟨b, hb⟩ : ∃ b, b = scalarB c := ⟨_, rfl⟩
  cases b with
  | false =>
    have HR := hid (canonS_f hb.symm)
    have HB := hid hb
    clear hb
    go_enter Try.func15, Try.ntmps15
    go_wp2_with (go_at_call 30; refine (ucdScalar c _).mono ?_; rw [← HB.out]; rintro e w1 ⟨rfl, rfl⟩)
    go_ret
    exact ⟨_, rfl, by rw [← HR.out]; exact sl_nil _ _, Below.refl _ _⟩
  | true =>
    have hr := canonS_t hb.symm
    have HB := hid hb
    clear hb
    obtain ⟨R, hR⟩ : ∃ R, R = fndS (fun r => r.f == c) tabCanon := ⟨_, rfl⟩
    rw [← hR] at hr
    obtain ⟨⟨f, t, v⟩, ok⟩ := R
    have HF := hid (fun (w : World) (x : Value) (h : Sg w x tabCanon) => (show Calls Try.prog 32 #[.agg #[x, .func (.func 43) #[] #[]], .int .i64 c] w fun e w' => e = .returned (.tuple #[.agg #[.int .i64 f, .int .i64 t, .int .i64 v], .bool ok]) ∧ Below w.heap.size w w' by have := ucdFind1 x tabCanon c w h; rw [← hR] at this; exact this))
    clear hR
    cases ok with
    | false =>
      have HR := hid (show [] = canonS c from hr)
      clear hr
      go_enter Try.func15, Try.ntmps15
      go_wp2_with (first
        | (go_at_call 30; refine (ucdScalar c _).mono ?_; rw [← HB.out]; rintro e w1 ⟨rfl, rfl⟩)
        | (go_at_call 31; refine (ucdDecompositions _).mono ?_; rintro e w2 ⟨v2, rfl, hs2, hb2⟩; have HS2 := hid hs2; have HB2 := hid hb2; clear hs2 hb2)
        | (go_at_call 32; refine (HF.out w2 v2 HS2.out).mono ?_; rintro e w3 ⟨rfl, hb3⟩; have HB3 := hid (HB2.out.trans (hb3.mono HB2.out.size)); clear hb3))
      go_ret
      exact ⟨_, rfl, by rw [← HR.out]; exact sl_nil _ _, HB3.out.alloc HB3.out.size _⟩
    | true =>
      obtain ⟨y, hy⟩ : ∃ y, y = (v == 0) := ⟨_, rfl⟩
      have hr2 : (if y then [t] else [t, v]) = canonS c := by rw [hy]; exact hr
      clear hr
      replace hy := hy.symm
      cases y with
      | true =>
        have HR := hid (show [t] = canonS c from hr2)
        clear hr2
        go_enter Try.func15, Try.ntmps15
        go_wp2_with (first
          | (go_at_call 30; refine (ucdScalar c _).mono ?_; rw [← HB.out]; rintro e w1 ⟨rfl, rfl⟩)
          | (go_at_call 31; refine (ucdDecompositions _).mono ?_; rintro e w2 ⟨v2, rfl, hs2, hb2⟩; have HS2 := hid hs2; have HB2 := hid hb2; clear hs2 hb2)
          | (go_at_call 32; refine (HF.out w2 v2 HS2.out).mono ?_; rintro e w3 ⟨rfl, hb3⟩; have HB3 := hid (HB2.out.trans (hb3.mono HB2.out.size)); clear hb3))
        go_ret
        have HB4 := HB3.out.alloc HB3.out.size (.cells #[.int .i64 f, .int .i64 t, .int .i64 v] 54)
        exact ⟨_, rfl, by rw [← HR.out]; exact lit_sl (by first | simp | rfl) rfl rfl (by simp), HB4.alloc HB4.size _⟩
      | false =>
        have HR := hid (show [t, v] = canonS c from hr2)
        clear hr2
        go_enter Try.func15, Try.ntmps15
        go_wp2_with (first
          | (go_at_call 30; refine (ucdScalar c _).mono ?_; rw [← HB.out]; rintro e w1 ⟨rfl, rfl⟩)
          | (go_at_call 31; refine (ucdDecompositions _).mono ?_; rintro e w2 ⟨v2, rfl, hs2, hb2⟩; have HS2 := hid hs2; have HB2 := hid hb2; clear hs2 hb2)
          | (go_at_call 32; refine (HF.out w2 v2 HS2.out).mono ?_; rintro e w3 ⟨rfl, hb3⟩; have HB3 := hid (HB2.out.trans (hb3.mono HB2.out.size)); clear hb3))
        go_ret
        have HB4 := HB3.out.alloc HB3.out.size (.cells #[.int .i64 f, .int .i64 t, .int .i64 v] 54)
        exact ⟨_, rfl, by rw [← HR.out]; exact lit_sl (by first | simp | rfl) rfl rfl (by simp), HB4.alloc HB4.size _⟩
end Go.Proofs.Ytjiheplifmakpaa

/-! Ucd4 -/
namespace Go.Proofs.Ytjiheplifmakpaa
open Go.RowKit

theorem box_third (w : World) (A B : Obj) (t : TypeId) (cs : List Value) : Box t cs (w.heap.size + 2) (((w.alloc A).alloc B).alloc (.cells cs.toArray t)) := by
  have := Box.made ((w.alloc A).alloc B) t cs
  simpa using this
end Go.Proofs.Ytjiheplifmakpaa

/-! Ucd11 -/
namespace Go.Proofs.Ytjiheplifmakpaa
open Go.RowKit
open Go.Great (wp_anyFrame)

theorem apiClassesO (w : World) : Calls Try.prog 22 #[] w fun e w' => ∃ v, e = .returned v ∧ OwnG 71 w.heap.size w' v tabClasses ∧ Below w.heap.size w w' := by
  refine calls_of_wp Try.func22 rfl ?_
  refine wp_anyFrame 28 (by as_aux_lemma => kernel_rfl) rfl fun a0 hs0 hd0 => ?_
  apply wp_seq_k; intro K0 hK0
  apply wp_region_lit
  refine Go.Great.wpList_readTo rfl (some 0) rfl (.slice none 0 0) rfl ?_
  apply wpList_nil
  refine hK0 _ _ ?_
  clear hK0 K0
  refine wp_anyFrame 28 (by simp only [Act.size_put, hs0]) (by simp only [Act.defers_put', hd0]) fun a1 hs1 hd1 => ?_
  apply wp_seq_k; intro K1 hK1
  apply wp_region_lit
  refine Go.Great.wpList_splitAt 26 (Go.Great.rgOps 71 "tables.go:80" .i64 1 (tri tabClasses)) (by as_aux_lemma => kernel_rfl) ?_
  refine Go.Great.wpList_rgs 71 "tables.go:80" .i64 (fun _ _ _ => by as_aux_lemma => kernel_rfl) _ 1 _ (by rw [hs1]; exact Nat.le_of_ble_eq_true (by as_aux_lemma => kernel_rfl)) fun b hb hbd hev _ => ?_
  refine Go.Great.wpList_buildRgs rfl 40 71 _ .i64 (tri tabClasses).toArray rfl 1 w.heap.size rfl (some 27) rfl (by as_aux_lemma => kernel_rfl) (by as_aux_lemma => kernel_rfl) (by as_aux_lemma => kernel_rfl) (by decide) (by decide) (by as_aux_lemma => kernel_rfl) hev ?_
  refine Go.Great.wpList_readTo rfl (some 0) rfl (.slice (some ⟨w.heap.size, 0, none⟩) 26 26) ?_ ?_
  · have := Act.eval_put_same b 27 (.slice (some ⟨w.heap.size, 0, none⟩) 26 26) (by rw [hb, hs1]; omega)
    exact congrArg (fun v => Result.ok (Next.value v) _) this
  apply wpList_nil
  refine hK1 _ _ ?_
  refine wp_ret (bodyPost_ret (results_tmp rfl _ _ _) (by simp only [Act.defers_put', hbd, hd1]) ⟨_, rfl, ?_, by (repeat (first | exact Below.refl _ _ | exact below_drewN _ | refine Below.drew ?_ | refine Below.alloc ?_ (by simp) _ | refine Below.setCell ?_ (by simp) _ | refine below_drewN' ?_ _))⟩)
  have := Act.eval_put_same (b.put (some 27) (.slice (some ⟨w.heap.size, 0, none⟩) 26 26)) 0 (.slice (some ⟨w.heap.size, 0, none⟩) 26 26) (by rw [Act.size_put, hb, hs1]; omega)
  rw [show ∀ a : Act, a.tmps.getD 0 undef = a.eval (.tmp 0) from fun _ => rfl]
  exact (congrArg (fun v => OwnG _ _ _ v tabClasses) this).mpr (ownG_made rfl (by as_aux_lemma => kernel_rfl) (Nat.le_refl _) ((tri_cells (by decide)).trans gv_tri) (by decide))


def exclL : List Int := [836, 2392, 2393, 64285, 64298, 64299]
theorem apiExcludedO (w : World) : Calls Try.prog 21 #[] w fun e w' => ∃ v, e = .returned v ∧ Own .i64 3 w.heap.size w' v exclL ∧ Below w.heap.size w w' := by
  go_enter Try.func21, Try.ntmps21
  go_wp2_with (fail)
  go_ret
  exact ⟨_, rfl, lit_own (by first | simp | rfl) (Nat.le_refl _) rfl rfl (by decide), by (repeat (first | exact Below.refl _ _ | exact below_drewN _ | refine Below.drew ?_ | refine Below.alloc ?_ (by simp) _ | refine Below.setCell ?_ (by simp) _ | refine below_drewN' ?_ _))⟩

/-- what else is owned stays when a row of another type turns -/
theorem ownG_row {w w' : World} {base e size n : Nat} {v : Value} {cs : List Value} (h : w.ownsRow base e size v n cs) {e2 base2 : Nat} {u : Value} {l : List Rg} (ho : OwnG e2 base2 w u l) (ht : e2 ≠ e) (hg : w.grownBy w' v.ownBlock) : OwnG e2 base2 w' u l := by
  refine World.ownsRow.kept ho hg ?_
  cases hb : u.ownBlock with
  | none => exact .inl rfl
  | some c =>
    refine .inr fun hrow => ?_
    rcases h.2 with ⟨rfl, _⟩ | ⟨g, cap, cur, rfl, _, hg1, _⟩
    · simp [Value.ownBlock] at hrow
    · rcases ho.2 with ⟨rfl, _⟩ | ⟨g2, cap2, cur2, rfl, _, hg2, _⟩
      · simp [Value.ownBlock] at hb
      · simp [Value.ownBlock] at hrow hb
        subst hrow hb
        rw [hg1] at hg2
        simp at hg2
        exact ht hg2.2.symm
def tabPair : List Rg := tabCanon.filter fun r => !delS exclL tabClasses r
theorem canon_pos : 0 < tabCanon.length := by
  unfold tabCanon
  rw [List.length_append]
  have : 0 < canonHead.length := by decide
  omega
theorem box_other {t : TypeId} {cs : List Value} {B g : Nat} {w w' : World} (h : Box t cs B w) (hg : w.grownBy w' (some g)) (hn : B ≠ g) : Box t cs B w' := (hg.block B h.lt (fun e => hn (by injection e))).trans h
/-- what two scalars compose, and whether they do -/
def pairS (a b : Int) : Int × Bool := ((fndS (fun r => r.t == a && r.v == b) tabPair).1.f, (fndS (fun r => r.t == a && r.v == b) tabPair).2)
end Go.Proofs.Ytjiheplifmakpaa

/-! TwinInts -/
namespace Go.Proofs.Ytjiheplifmakpaa
open Go.RowKit

theorem keepTwinInts (v : Value) (xs : List Int) (w : World) (h : Sl .i64 w v xs) (hl : xs.length ≤ 10000000000000) :
    Calls Try.prog 8 #[v] w fun e w' => ∃ v', e = .returned v' ∧ Own .i64 3 w.heap.size w' v' xs ∧ Below w.heap.size w w' := by
  have H := hid h
  obtain ⟨a, cap, rfl, -, -, -⟩ := h
  go_enter Try.func8, Try.ntmps8
  go_wp2_with (at_builtin; go_loud (refine wpList_app _ rfl _ _ 22 rfl .i64 w.heap.size 3 8 Try.underlying22 Try.infoI64 _ [] xs rfl (Own.nil _ _ _ _) _ rfl H.out (by unfold maxLen; simp; omega) (by simp; omega) (by omega) ?_); intro v' w' ho hg hb hn)
  go_ret
  exact ⟨_, rfl, ho, hb⟩

end Go.Proofs.Ytjiheplifmakpaa
