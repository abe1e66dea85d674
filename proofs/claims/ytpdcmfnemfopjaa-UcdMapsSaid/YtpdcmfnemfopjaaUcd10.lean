/- Contracts of package ucd's Compat, Fold and Canon. -/
import Derived.Test.YtpdcmfnemfopjaaUcd1
import Derived.Test.YtpdcmfnemfopjaaUcd3
import Derived.Test.YtpdcmfnemfopjaaApiCompat
import Derived.Test.YtpdcmfnemfopjaaApiFolds
import Derived.Test.YtpdcmfnemfopjaaApiCanon
namespace Go.Proofs.Ytpdcmfnemfopjaa
open Go.RowKit

def mapS (l : List Mp) (c : Int) : List Int := if scalarB c then (fndM c l).1.t else []
theorem mapS_t {l : List Mp} {c : Int} (h : scalarB c = true) : (fndM c l).1.t = mapS l c := by unfold mapS; rw [h]; rfl
theorem mapS_f {l : List Mp} {c : Int} (h : scalarB c = false) : [] = mapS l c := by unfold mapS; rw [h]; rfl

theorem store_fn (P : Program) (f : Fn) (a : Addr) (m : Mode) (w : World) : (store a (.func f #[] #[]) m).run P w = stored P w a (.func f #[] #[]) m := run_store P w a _ m rfl
theorem ucdMappings (a : Option Addr) (n cap : Nat) (w : World) : Calls Try.prog 57 #[.slice a n cap] w fun e w' => e = .returned (.agg #[.slice a n cap, .func (.func 63) #[] #[]]) ∧ Below w.heap.size w w' := by
  have h9 := store_fn Try.prog (Fn.func 63)
  go_enter Try.func57, Try.ntmps57
  go_wp2_with (fail)
  refine bodyPost_ret (results_one rfl rfl (loadT3 (Box.made _ _ _))) rfl ⟨rfl, by (repeat (first | exact Below.refl _ _ | exact below_drewN _ | refine Below.drew ?_ | refine Below.alloc ?_ (by simp) _ | refine Below.setCell ?_ (by simp) _ | refine below_drewN' ?_ _))⟩

set_option maxHeartbeats 1000000 in
theorem ucdMapped (v : Value) (l : List Mp) (c : Int) (w : World) (h : Sm w v l) : Calls Try.prog 50 #[v, .int .i64 c] w fun e w' => ∃ x, e = .returned x ∧ Sl .i64 w' x (mapS l c) ∧ Below w.heap.size w w' := by
  have HS := hid h
  obtain ⟨av, cv, hv⟩ := h.form
  obtain ⟨n, hn⟩ : ∃ n, n = l.length := ⟨_, rfl⟩
  rw [← hn] at hv
  subst hv
  clear hn h
  obtain ⟨b, hb⟩ : ∃ b, b = scalarB c := ⟨_, rfl⟩
  cases b with
  | false =>
    have HR := hid (mapS_f (l := l) hb.symm)
    have HB := hid hb
    clear hb
    go_enter Try.func50, Try.ntmps50
    go_wp2_with (go_at_call 11; refine (ucdScalar c _).mono ?_; rw [← HB.out]; rintro e w1 ⟨rfl, rfl⟩)
    go_ret
    exact ⟨_, rfl, by rw [← HR.out]; exact sl_nil _ _, Below.refl _ _⟩
  | true =>
    have HR := hid (mapS_t (l := l) hb.symm)
    have HB := hid hb
    clear hb
    go_enter Try.func50, Try.ntmps50
    go_wp2_with (first
      | (go_at_call 11; refine (ucdScalar c _).mono ?_; rw [← HB.out]; rintro e w1 ⟨rfl, rfl⟩)
      | (go_at_call 57; refine (ucdMappings av n cv _).mono ?_; rintro e w2 ⟨rfl, hb2⟩; have HB2 := hid hb2; clear hb2)
      | (go_at_call 58; refine (ucdFindM (.slice av n cv) l c w2 (HS.out.below HB2.out)).mono ?_; rw [HR.out]; rintro e w3 ⟨x3, rfl, hs3, hb3⟩; have HS3 := hid hs3; have HB3 := hid (HB2.out.trans (hb3.mono HB2.out.size)); obtain ⟨a3, c3, hx3⟩ := hs3.form; obtain ⟨n3, hn3⟩ : ∃ n3, n3 = (mapS l c).length := ⟨_, rfl⟩; rw [← hn3] at hx3; subst hx3; clear hs3 hb3 hn3))
    go_ret
    have hb4 : Below w3.heap.size w3 (w3.alloc (.cells #[.int .i64 (fndM c l).1.f, .slice a3 n3 c3] 45)) := by (repeat (first | exact Below.refl _ _ | exact below_drewN _ | refine Below.drew ?_ | refine Below.alloc ?_ (by simp) _ | refine Below.setCell ?_ (by simp) _ | refine below_drewN' ?_ _))
    exact ⟨_, rfl, HS3.out.below hb4, HB3.out.trans (hb4.mono HB3.out.size)⟩

theorem ucdCompat (c : Int) (w : World) : Calls Try.prog 26 #[.int .i64 c] w fun e w' => ∃ x, e = .returned x ∧ Sl .i64 w' x (mapS tabCompat c) ∧ Below w.heap.size w w' := by
  go_enter Try.func26, Try.ntmps26
  go_wp2_with (first
    | (go_at_call 37; refine (apiCompat w).mono ?_; rintro e w1 ⟨v1, rfl, hs1, hb1⟩; have HS1 := hid hs1.sm; have HB1 := hid hb1; clear hs1 hb1)
    | (go_at_call 50; refine (ucdMapped v1 tabCompat c w1 HS1.out).mono ?_; rintro e w2 ⟨x2, rfl, hs2, hb2⟩; have HS2 := hid hs2; have HB2 := hid hb2; clear hs2 hb2))
  go_ret
  exact ⟨_, rfl, HS2.out, HB1.out.trans (HB2.out.mono HB1.out.size)⟩
theorem ucdFold (c : Int) (w : World) : Calls Try.prog 28 #[.int .i64 c] w fun e w' => ∃ x, e = .returned x ∧ Sl .i64 w' x (mapS tabFolds c) ∧ Below w.heap.size w w' := by
  go_enter Try.func28, Try.ntmps28
  go_wp2_with (first
    | (go_at_call 38; refine (apiFolds w).mono ?_; rintro e w1 ⟨v1, rfl, hs1, hb1⟩; have HS1 := hid hs1.sm; have HB1 := hid hb1; clear hs1 hb1)
    | (go_at_call 50; refine (ucdMapped v1 tabFolds c w1 HS1.out).mono ?_; rintro e w2 ⟨x2, rfl, hs2, hb2⟩; have HS2 := hid hs2; have HB2 := hid hb2; clear hs2 hb2))
  go_ret
  exact ⟨_, rfl, HS2.out, HB1.out.trans (HB2.out.mono HB1.out.size)⟩

theorem OwnG.far6 {e base : Nat} {w : World} {v : Value} {l : List Rg} (h : OwnG e base w v l) {B : Nat} (hB : B < base) (j : Nat) (u : Value) : OwnG e base (w.setCell ⟨B, j, none⟩ u) v l := by
  obtain ⟨h1, h2⟩ := h
  refine ⟨h1, ?_⟩
  rcases h2 with h2 | ⟨g, cap, cur, hv, hg, hh, r⟩
  · exact .inl h2
  · refine .inr ⟨g, cap, cur, hv, hg, ?_, r⟩
    rw [Below.heap_setCell _ _ _ _ (fun e => by simp only at e; omega)]
    exact hh
theorem ucdDecompositions (w : World) : Calls Try.prog 48 #[] w fun e w' => ∃ v, e = .returned (.agg #[v, .func (.func 56) #[] #[]]) ∧ Sg w' v tabCanon ∧ Below w.heap.size w w' := by
  go_enter Try.func48, Try.ntmps48
  have h9 := store_fn Try.prog (Fn.func 56)
  have HB0 := hid (show Below w.heap.size w (w.alloc (.cells #[.slice none 0 0, .nilFunc] 60)) by (repeat (first | exact Below.refl _ _ | exact below_drewN _ | refine Below.drew ?_ | refine Below.alloc ?_ (by simp) _ | refine Below.setCell ?_ (by simp) _ | refine below_drewN' ?_ _)))
  have HX := hid (Box.made w 60 [.slice none 0 0, .nilFunc])
  go_wp2_with (go_at_call 36; refine (apiCanon _).mono ?_; rintro e w1 ⟨v1, rfl, ho1, hb1⟩; obtain ⟨a1, c1, hv1⟩ := ho1.form; obtain ⟨n, hn⟩ : ∃ n, n = tabCanon.length := ⟨_, rfl⟩; rw [← hn] at hv1; subst hv1; have HO1 := hid ho1; have HB1 := hid (HB0.out.trans (hb1.mono HB0.out.size)); have HX1 := hid (HX.out.below hb1 HX.out.lt); clear ho1 hb1 hn; have z0 := HX1.out.ice 0; have z1 := HX1.out.ice 1; have y0 := HX1.out.cell 0; have y1 := HX1.out.cell 1; simp only [List.getElem?_cons_zero, List.getElem?_cons_succ] at y0 y1)
  have hlt : w.heap.size < (w.alloc (.cells #[.slice none 0 0, .nilFunc] 60)).heap.size := by simp
  refine bodyPost_ret (results_one rfl rfl (loadT1 (HX1.out.pair _ _))) rfl ⟨_, rfl, ((HO1.out.far6 hlt 0 _).far6 hlt 1 _).sg, below_pair HB1.out (Nat.le_refl _)⟩

/-- the canonical decomposition that a row tells -/
def rowS (r : Rg × Bool) : List Int := if r.2 then (if r.1.v == 0 then [r.1.t] else [r.1.t, r.1.v]) else []
def canonS (c : Int) : List Int := if scalarB c then rowS (fndS (fun r => r.f == c) tabCanon) else []
theorem canonS_t {c : Int} (h : scalarB c = true) : rowS (fndS (fun r => r.f == c) tabCanon) = canonS c := by unfold canonS; rw [h]; rfl
theorem canonS_f {c : Int} (h : scalarB c = false) : [] = canonS c := by unfold canonS; rw [h]; rfl

set_option maxHeartbeats 2000000 in
theorem ucdCanon (c : Int) (w : World) : Calls Try.prog 24 #[.int .i64 c] w fun e w' => ∃ x, e = .returned x ∧ Sl .i64 w' x (canonS c) ∧ Below w.heap.size w w' := by
  obtain ⟨b, hb⟩ : ∃ b, b = scalarB c := ⟨_, rfl⟩
  cases b with
  | false =>
    have HR := hid (canonS_f hb.symm)
    have HB := hid hb
    clear hb
    go_enter Try.func24, Try.ntmps24
    go_wp2_with (go_at_call 11; refine (ucdScalar c _).mono ?_; rw [← HB.out]; rintro e w1 ⟨rfl, rfl⟩)
    go_ret
    exact ⟨_, rfl, by rw [← HR.out]; exact sl_nil _ _, Below.refl _ _⟩
  | true =>
    have hr := canonS_t hb.symm
    have HB := hid hb
    clear hb
    obtain ⟨R, hR⟩ : ∃ R, R = fndS (fun r => r.f == c) tabCanon := ⟨_, rfl⟩
    rw [← hR] at hr
    obtain ⟨⟨f, t, v⟩, ok⟩ := R
    have HF := hid (fun (w : World) (x : Value) (h : Sg w x tabCanon) => (show Calls Try.prog 49 #[.agg #[x, .func (.func 56) #[] #[]], .int .i64 c] w fun e w' => e = .returned (.tuple #[.agg #[.int .i64 f, .int .i64 t, .int .i64 v], .bool ok]) ∧ Below w.heap.size w w' by have := ucdFind1 x tabCanon c w h; rw [← hR] at this; exact this))
    clear hR
    cases ok with
    | false =>
      have HR := hid (show [] = canonS c from hr)
      clear hr
      go_enter Try.func24, Try.ntmps24
      go_wp2_with (first
        | (go_at_call 11; refine (ucdScalar c _).mono ?_; rw [← HB.out]; rintro e w1 ⟨rfl, rfl⟩)
        | (go_at_call 48; refine (ucdDecompositions _).mono ?_; rintro e w2 ⟨v2, rfl, hs2, hb2⟩; have HS2 := hid hs2; have HB2 := hid hb2; clear hs2 hb2)
        | (go_at_call 49; refine (HF.out w2 v2 HS2.out).mono ?_; rintro e w3 ⟨rfl, hb3⟩; have HB3 := hid (HB2.out.trans (hb3.mono HB2.out.size)); clear hb3))
      go_ret
      exact ⟨_, rfl, by rw [← HR.out]; exact sl_nil _ _, HB3.out.alloc HB3.out.size _⟩
    | true =>
      obtain ⟨y, hy⟩ : ∃ y, y = (v == 0) := ⟨_, rfl⟩
      have hr2 : (if y then [t] else [t, v]) = canonS c := by rw [hy]; exact hr
      clear hr
      replace hy := hy.symm
      cases y with
      | true =>
        have HR := hid (show [t] = canonS c from hr2)
        clear hr2
        go_enter Try.func24, Try.ntmps24
        go_wp2_with (first
          | (go_at_call 11; refine (ucdScalar c _).mono ?_; rw [← HB.out]; rintro e w1 ⟨rfl, rfl⟩)
          | (go_at_call 48; refine (ucdDecompositions _).mono ?_; rintro e w2 ⟨v2, rfl, hs2, hb2⟩; have HS2 := hid hs2; have HB2 := hid hb2; clear hs2 hb2)
          | (go_at_call 49; refine (HF.out w2 v2 HS2.out).mono ?_; rintro e w3 ⟨rfl, hb3⟩; have HB3 := hid (HB2.out.trans (hb3.mono HB2.out.size)); clear hb3))
        go_ret
        have HB4 := HB3.out.alloc HB3.out.size (.cells #[.int .i64 f, .int .i64 t, .int .i64 v] 43)
        exact ⟨_, rfl, by rw [← HR.out]; exact lit_sl (by first | simp | rfl) rfl rfl (by simp), HB4.alloc HB4.size _⟩
      | false =>
        have HR := hid (show [t, v] = canonS c from hr2)
        clear hr2
        go_enter Try.func24, Try.ntmps24
        go_wp2_with (first
          | (go_at_call 11; refine (ucdScalar c _).mono ?_; rw [← HB.out]; rintro e w1 ⟨rfl, rfl⟩)
          | (go_at_call 48; refine (ucdDecompositions _).mono ?_; rintro e w2 ⟨v2, rfl, hs2, hb2⟩; have HS2 := hid hs2; have HB2 := hid hb2; clear hs2 hb2)
          | (go_at_call 49; refine (HF.out w2 v2 HS2.out).mono ?_; rintro e w3 ⟨rfl, hb3⟩; have HB3 := hid (HB2.out.trans (hb3.mono HB2.out.size)); clear hb3))
        go_ret
        have HB4 := HB3.out.alloc HB3.out.size (.cells #[.int .i64 f, .int .i64 t, .int .i64 v] 43)
        exact ⟨_, rfl, by rw [← HR.out]; exact lit_sl (by first | simp | rfl) rfl rfl (by simp), HB4.alloc HB4.size _⟩
end Go.Proofs.Ytpdcmfnemfopjaa
