/- Several texts in one: UcdO, Dec8a, Dec8b. -/
import Derived.Test.YtimbchkoomjhkaaPk12
import Derived.Test.YtimbchkoomjhkaaPk23
import Derived.Test.YtimbchkoomjhkaaPk19
import Derived.Test.YtimbchkoomjhkaaPk3
import Derived.Carry
/-! UcdO -/
namespace Go.Proofs.Ytimbchkoomjhkaa
open Go.RowKit

/-- the value v is a slice that holds the list l, and each list in it is the call's own -/
def SmO (base : Nat) (w : World) (v : Value) (l : List Mp) : Prop :=
  ∃ a cap, v = .slice a l.length cap ∧ l.length ≤ cap ∧ cap ≤ maxLen ∧
    (cap = 0 ∨ ∃ b off, a = some ⟨b, off, none⟩ ∧ (0 < l.length → b < w.heap.size) ∧ ∀ i, i < l.length →
      w.cell? ⟨b, off + i * 2, none⟩ = some (.int .i64 (l.getD i noMp).f) ∧ ∃ u, w.cell? ⟨b, off + i * 2 + 1, none⟩ = some u ∧ Own .i64 3 base w u (l.getD i noMp).t)
theorem SmO.below {base : Nat} {w w' : World} {v : Value} {l : List Mp} (h : SmO base w v l) (hb : Below w.heap.size w w') : SmO base w' v l := by
  obtain ⟨a, cap, hv, hl, hm, h⟩ := h
  refine ⟨a, cap, hv, hl, hm, ?_⟩
  rcases h with h | ⟨b, off, ha, hbb, hc⟩
  · exact .inl h
  · refine .inr ⟨b, off, ha, fun h0 => Nat.lt_of_lt_of_le (hbb h0) hb.size, fun i hi => ?_⟩
    obtain ⟨h1, u, h2, h3⟩ := hc i hi
    have hlt := hbb (by omega)
    exact ⟨(hb.cell (p := ⟨b, off + i * 2, none⟩) hlt).trans h1, u, (hb.cell (p := ⟨b, off + i * 2 + 1, none⟩) hlt).trans h2, h3.below hb⟩
theorem SmO.form {base : Nat} {w : World} {v : Value} {l : List Mp} (h : SmO base w v l) : ∃ a c, v = .slice a l.length c := by
  obtain ⟨a, c, rfl, -, -, -⟩ := h
  exact ⟨a, c, rfl⟩
theorem SmO.len {base : Nat} {w : World} {v : Value} {l : List Mp} (h : SmO base w v l) : l.length ≤ 9223372036854775807 := by
  obtain ⟨a, cap, _, hl, hm, _⟩ := h
  unfold maxLen at hm
  omega
theorem OwnM.smO {e base : Nat} {w : World} {v : Value} {l : List Mp} (h : OwnM e base w v l) : SmO base w v l := by
  obtain ⟨us, hts, h1, h2⟩ := h
  have hlen := mv_len hts.len
  rcases h2 with ⟨rfl, hn⟩ | ⟨g, cap, cur, rfl, hb, hg, hnc, hcm, hcs, ht⟩
  · exact ⟨none, 0, by rw [hn], by omega, by unfold maxLen; omega, .inl rfl⟩
  · have key : ∀ j, j < l.length * 2 → w.cell? ⟨g, 0 + j, none⟩ = (mv l us)[j]? := fun j hj => by
      rw [cell_of_row w g (0 + j) cur e (0, 0) hg, ← ht, List.getElem?_take, if_pos hj]
      simp
    refine ⟨some ⟨g, 0, none⟩, cap, rfl, hnc, hcm, .inr ⟨g, 0, rfl, fun _ => (Array.getElem?_eq_some_iff.1 hg).1, fun i hi => ?_⟩⟩
    obtain ⟨u, a1, a2, a3⟩ := hts.at hi
    exact ⟨(key (i * 2) (by omega)).trans a1, u, (key (i * 2 + 1) (by omega)).trans a2, a3⟩

set_option maxHeartbeats 2000000 in
theorem ucdFindMO (base : Nat) (v : Value) (l : List Mp) (c : Int) (w : World) (h : SmO base w v l) :
    Calls Try.prog 108 #[.agg #[v, .func (.func 109) #[] #[]], .int .i64 c] w fun e w' =>
      ∃ x, e = .returned (.tuple #[.agg #[.int .i64 (fndM c l).1.f, x], .bool (fndM c l).2]) ∧ Own .i64 3 base w' x (fndM c l).1.t ∧ Below w.heap.size w w' := by
  have ml := h.len
  obtain ⟨a1, cap1, rfl, q1, -, h1⟩ := h
  obtain ⟨n, hn⟩ : ∃ n, n = l.length := ⟨_, rfl⟩
  obtain ⟨R, hR⟩ : ∃ R, R = fndM c l := ⟨_, rfl⟩
  have hH : ∀ k, k < n → (∀ i, i < k → ((l.getD i noMp).f == c) = false) → ((l.getD k noMp).f == c) = true → R = (l.getD k noMp, true) := fun k hk ha hh => hR.trans (fndM_hit (by omega) ha hh)
  have hN : (∀ i, i < n → ((l.getD i noMp).f == c) = false) → R = (noMp, false) := fun ha => hR.trans (fndM_none (by rw [← hn]; exact ha))
  rw [← hR]
  have HH := hid hH
  have HN := hid hN
  have H1 := hid h1
  rw [← hn] at ml q1 H1 ⊢
  clear hH hN h1 hn hR
  go_enter Try.func108, Try.ntmps108
  go_wp2_with (fail)
  go_loopw [12] (fun iv wr => ∃ k : Nat, k ≤ n ∧ iv = .int .i64 k ∧ Hid (Box 124 [.slice a1 n cap1, .func (.func 109) #[] #[]] w.heap.size wr) ∧ Hid (Box 75 [.int .i64 0, .slice none 0 0] (w.heap.size + 1) wr) ∧ Hid (Below w.heap.size w wr) ∧ Hid (∀ i, i < k → ((l.getD i noMp).f == c) = false)) (fun iv _ => n - (intOf iv).toNat)
  case atStart => exact ⟨0, by omega, rfl, (Box.made w 124 _).alloc _, box_last _ _ _ _, by (repeat (first | exact Below.refl _ _ | exact below_drewN _ | refine Below.drew ?_ | refine Below.alloc ?_ (by simp) _ | refine Below.setCell ?_ (by simp) _ | refine below_drewN' ?_ _)), fun i hi => absurd hi (by omega)⟩
  case round =>
    obtain ⟨k, hk, rfl, hbt, hbr, hbel, hall⟩ := hrel
    have hsz := hbr.out.lt
    by_cases hlt : k < n
    · rcases H1.out with hc | ⟨b1, o1, rfl, hb1, c1⟩
      · omega
      have hb1' := hb1 (by omega)
      obtain ⟨d1, ux, d2, d3⟩ := c1 k hlt
      have d1 := (hbel.out.cell (p := ⟨b1, o1 + k * 2, none⟩) hb1').trans d1
      have d2 := (hbel.out.cell (p := ⟨b1, o1 + k * 2 + 1, none⟩) hb1').trans d2
      have HD := hid d3
      clear d3
      have hh := hid (HH.out k hlt hall.out)
      have HNX := hid (show ((l.getD k noMp).f == c) = false → ∀ i, i < k + 1 → ((l.getD i noMp).f == c) = false from fun he i hi => by
        rcases Nat.lt_or_ge i k with h | h
        · exact hall.out i h
        · obtain rfl : i = k := by omega
          exact he)
      clear c1
      generalize l.getD k noMp = r at d1 d2 HD hh HNX
      obtain ⟨rf, rt⟩ := r
      simp only at d1 d2 HD hh HNX
      obtain ⟨au, cu, hux⟩ := HD.out.sl.form
      obtain ⟨nr, hnr⟩ : ∃ nr, nr = rt.length := ⟨_, rfl⟩
      rw [← hnr] at hux
      subst hux
      clear hnr
      obtain ⟨b, hb⟩ : ∃ b, b = (rf == c) := ⟨_, rfl⟩
      rw [← hb] at hh HNX
      replace hb := hb.symm
      have HBW := hid (show Below wr.heap.size wr (wr.alloc (.cells #[.int .i64 rf, (.slice au nr cu)] 75)) by (repeat (first | exact Below.refl _ _ | exact below_drewN _ | refine Below.drew ?_ | refine Below.alloc ?_ (by simp) _ | refine Below.setCell ?_ (by simp) _ | refine below_drewN' ?_ _)))
      have HNW := hid (Box.made wr 75 [.int .i64 rf, (.slice au nr cu)])
      have HRA := hid (hbr.out.alloc (.cells #[.int .i64 rf, (.slice au nr cu)] 75))
      have HTA := hid (hbt.out.alloc (.cells #[.int .i64 rf, (.slice au nr cu)] 75))
      have x1 := HTA.out.cell 1
      simp only [List.getElem?_cons_zero, List.getElem?_cons_succ] at x1
      cases b with
      | true =>
        have hr := hid (hh.out rfl)
        go_wp2_with (go_at_call 109; refine (ucdFrom rf (.slice au nr cu) _).mono ?_; rintro e wu ⟨rfl, hbu⟩; have HBU := hid (hbel.out.trans ((HBW.out.trans (hbu.mono HBW.out.size)).mono hbel.out.size)); have HRU := hid (HRA.out.below hbu HRA.out.lt); have HNU := hid (HNW.out.below hbu HNW.out.lt); clear hbu; have y2 := HNU.out.cell 0; have y3 := HNU.out.cell 1; have z0 := HRU.out.ice 0; have z1 := HRU.out.ice 1; have w0 := HRU.out.cell 0; have w1 := HRU.out.cell 1; simp only [List.getElem?_cons_zero, List.getElem?_cons_succ] at w0 w1 y2 y3)
        refine bodyPost_ret (results_two rfl rfl (loadMp (HRU.out.pair _ _))) rfl ⟨.slice au nr cu, by rw [hr.out]; rfl, by rw [hr.out]; exact HD.out.below (below_pair HBU.out (by omega)), below_pair HBU.out (by omega)⟩
      | false =>
        have hr := hid (HNX.out rfl)
        go_wp2_with (go_at_call 109; refine (ucdFrom rf (.slice au nr cu) _).mono ?_; rintro e wu ⟨rfl, hbu⟩; have HBU := hid (hbel.out.trans ((HBW.out.trans (hbu.mono HBW.out.size)).mono hbel.out.size)); have HRU := hid (HRA.out.below hbu HRA.out.lt); have HTU := hid (HTA.out.below hbu HTA.out.lt); clear hbu)
        go_roundw
        case rel => exact ⟨k + 1, by omega, by go_num, HTU.out, HRU.out, HBU.out, hr.out⟩
        case measure => simp [intOf]; omega
    · obtain rfl : k = n := by omega
      have hr := hid (HN.out hall.out)
      have z0 := hbr.out.ice 0
      have z1 := hbr.out.ice 1
      have w0 := hbr.out.cell 0
      have w1 := hbr.out.cell 1
      simp only [List.getElem?_cons_zero, List.getElem?_cons_succ] at w0 w1
      have HB3 := hid (below_pair (B := w.heap.size + 1) (a := .int .i64 0) (b := .slice none 0 0) hbel.out (by omega))
      have HR3 := hid (hbr.out.pair (.int .i64 0) (.slice none 0 0))
      go_wp2_with (fail)
      refine bodyPost_ret (results_two rfl rfl (loadMp (HR3.out.alloc _))) rfl ⟨_, by rw [hr.out]; rfl, by rw [hr.out]; exact Own.nil _ _ _ _, HB3.out.alloc HB3.out.size _⟩

set_option maxHeartbeats 1000000 in
theorem ucdMappedO (base : Nat) (v : Value) (l : List Mp) (c : Int) (w : World) (h : SmO base w v l) : Calls Try.prog 106 #[v, .int .i64 c] w fun e w' => ∃ x, e = .returned x ∧ Own .i64 3 base w' x (mapS l c) ∧ Below w.heap.size w w' := by
  have HS := hid h
  obtain ⟨av, cv, hv⟩ := h.form
  obtain ⟨n, hn⟩ : ∃ n, n = l.length := ⟨_, rfl⟩
  rw [← hn] at hv
  subst hv
  clear hn h
  obtain ⟨b, hb⟩ : ∃ b, b = scalarB c := ⟨_, rfl⟩
  cases b with
  | false =>
    have HR := hid (mapS_f (l := l) hb.symm)
    have HB := hid hb
    clear hb
    go_enter Try.func106, Try.ntmps106
    go_wp2_with (go_at_call 45; refine (ucdScalar c _).mono ?_; rw [← HB.out]; rintro e w1 ⟨rfl, rfl⟩)
    go_ret
    exact ⟨_, rfl, by rw [← HR.out]; exact Own.nil _ _ _ _, Below.refl _ _⟩
  | true =>
    have HR := hid (mapS_t (l := l) hb.symm)
    have HB := hid hb
    clear hb
    go_enter Try.func106, Try.ntmps106
    go_wp2_with (first
      | (go_at_call 45; refine (ucdScalar c _).mono ?_; rw [← HB.out]; rintro e w1 ⟨rfl, rfl⟩)
      | (go_at_call 107; refine (ucdMappings av n cv _).mono ?_; rintro e w2 ⟨rfl, hb2⟩; have HB2 := hid hb2; clear hb2)
      | (go_at_call 108; refine (ucdFindMO base (.slice av n cv) l c w2 (HS.out.below HB2.out)).mono ?_; rw [HR.out]; rintro e w3 ⟨x3, rfl, hs3, hb3⟩; have HS3 := hid hs3; have HB3 := hid (HB2.out.trans (hb3.mono HB2.out.size)); obtain ⟨a3, c3, hx3⟩ := hs3.sl.form; obtain ⟨n3, hn3⟩ : ∃ n3, n3 = (mapS l c).length := ⟨_, rfl⟩; rw [← hn3] at hx3; subst hx3; clear hs3 hb3 hn3))
    go_ret
    have hb4 : Below w3.heap.size w3 (w3.alloc (.cells #[.int .i64 (fndM c l).1.f, .slice a3 n3 c3] 75)) := by (repeat (first | exact Below.refl _ _ | exact below_drewN _ | refine Below.drew ?_ | refine Below.alloc ?_ (by simp) _ | refine Below.setCell ?_ (by simp) _ | refine below_drewN' ?_ _))
    exact ⟨_, rfl, HS3.out.below hb4, HB3.out.trans (hb4.mono HB3.out.size)⟩

theorem ucdCompatO (c : Int) (w : World) : Calls Try.prog 105 #[.int .i64 c] w fun e w' => ∃ x, e = .returned x ∧ Own .i64 3 w.heap.size w' x (mapS tabCompat c) ∧ Below w.heap.size w w' := by
  go_enter Try.func105, Try.ntmps105
  go_wp2_with (first
    | (go_at_call 26; refine (apiCompat w).mono ?_; rintro e w1 ⟨v1, rfl, hs1, hb1⟩; have HS1 := hid hs1.smO; have HB1 := hid hb1; clear hs1 hb1)
    | (go_at_call 106; refine (ucdMappedO w.heap.size v1 tabCompat c w1 HS1.out).mono ?_; rintro e w2 ⟨x2, rfl, hs2, hb2⟩; have HS2 := hid hs2; have HB2 := hid hb2; clear hs2 hb2))
  go_ret
  exact ⟨_, rfl, HS2.out, HB1.out.trans (HB2.out.mono HB1.out.size)⟩
set_option maxHeartbeats 2000000 in
theorem ucdCanonO (c : Int) (w : World) : Calls Try.prog 22 #[.int .i64 c] w fun e w' => ∃ x, e = .returned x ∧ Own .i64 3 w.heap.size w' x (canonS c) ∧ Below w.heap.size w w' := by
  obtain ⟨b, hb⟩ : ∃ b, b = scalarB c := ⟨_, rfl⟩
  cases b with
  | false =>
    have HR := hid (canonS_f hb.symm)
    have HB := hid hb
    clear hb
    go_enter Try.func22, Try.ntmps22
    go_wp2_with (go_at_call 45; refine (ucdScalar c _).mono ?_; rw [← HB.out]; rintro e w1 ⟨rfl, rfl⟩)
    go_ret
    exact ⟨_, rfl, by rw [← HR.out]; exact Own.nil _ _ _ _, Below.refl _ _⟩
  | true =>
    have hr := canonS_t hb.symm
    have HB := hid hb
    clear hb
    obtain ⟨R, hR⟩ : ∃ R, R = fndS (fun r => r.f == c) tabCanon := ⟨_, rfl⟩
    rw [← hR] at hr
    obtain ⟨⟨f, t, v⟩, ok⟩ := R
    have HF := hid (fun (w : World) (x : Value) (h : Sg w x tabCanon) => (show Calls Try.prog 48 #[.agg #[x, .func (.func 72) #[] #[]], .int .i64 c] w fun e w' => e = .returned (.tuple #[.agg #[.int .i64 f, .int .i64 t, .int .i64 v], .bool ok]) ∧ Below w.heap.size w w' by have := ucdFind1 x tabCanon c w h; rw [← hR] at this; exact this))
    clear hR
    cases ok with
    | false =>
      have HR := hid (show [] = canonS c from hr)
      clear hr
      go_enter Try.func22, Try.ntmps22
      go_wp2_with (first
        | (go_at_call 45; refine (ucdScalar c _).mono ?_; rw [← HB.out]; rintro e w1 ⟨rfl, rfl⟩)
        | (go_at_call 47; refine (ucdDecompositions _).mono ?_; rintro e w2 ⟨v2, rfl, hs2, hb2⟩; have HS2 := hid hs2; have HB2 := hid hb2; clear hs2 hb2)
        | (go_at_call 48; refine (HF.out w2 v2 HS2.out).mono ?_; rintro e w3 ⟨rfl, hb3⟩; have HB3 := hid (HB2.out.trans (hb3.mono HB2.out.size)); clear hb3))
      go_ret
      exact ⟨_, rfl, by rw [← HR.out]; exact Own.nil _ _ _ _, HB3.out.alloc HB3.out.size _⟩
    | true =>
      obtain ⟨y, hy⟩ : ∃ y, y = (v == 0) := ⟨_, rfl⟩
      have hr2 : (if y then [t] else [t, v]) = canonS c := by rw [hy]; exact hr
      clear hr
      replace hy := hy.symm
      cases y with
      | true =>
        have HR := hid (show [t] = canonS c from hr2)
        clear hr2
        go_enter Try.func22, Try.ntmps22
        go_wp2_with (first
          | (go_at_call 45; refine (ucdScalar c _).mono ?_; rw [← HB.out]; rintro e w1 ⟨rfl, rfl⟩)
          | (go_at_call 47; refine (ucdDecompositions _).mono ?_; rintro e w2 ⟨v2, rfl, hs2, hb2⟩; have HS2 := hid hs2; have HB2 := hid hb2; clear hs2 hb2)
          | (go_at_call 48; refine (HF.out w2 v2 HS2.out).mono ?_; rintro e w3 ⟨rfl, hb3⟩; have HB3 := hid (HB2.out.trans (hb3.mono HB2.out.size)); clear hb3))
        go_ret
        have HB4 := HB3.out.alloc HB3.out.size (.cells #[.int .i64 f, .int .i64 t, .int .i64 v] 55)
        exact ⟨_, rfl, by rw [← HR.out]; exact lit_own (by first | simp | rfl) (HB4.size) rfl rfl (by simp), HB4.alloc HB4.size _⟩
      | false =>
        have HR := hid (show [t, v] = canonS c from hr2)
        clear hr2
        go_enter Try.func22, Try.ntmps22
        go_wp2_with (first
          | (go_at_call 45; refine (ucdScalar c _).mono ?_; rw [← HB.out]; rintro e w1 ⟨rfl, rfl⟩)
          | (go_at_call 47; refine (ucdDecompositions _).mono ?_; rintro e w2 ⟨v2, rfl, hs2, hb2⟩; have HS2 := hid hs2; have HB2 := hid hb2; clear hs2 hb2)
          | (go_at_call 48; refine (HF.out w2 v2 HS2.out).mono ?_; rintro e w3 ⟨rfl, hb3⟩; have HB3 := hid (HB2.out.trans (hb3.mono HB2.out.size)); clear hb3))
        go_ret
        have HB4 := HB3.out.alloc HB3.out.size (.cells #[.int .i64 f, .int .i64 t, .int .i64 v] 55)
        exact ⟨_, rfl, by rw [← HR.out]; exact lit_own (by first | simp | rfl) (HB4.size) rfl rfl (by simp), HB4.alloc HB4.size _⟩
end Go.Proofs.Ytimbchkoomjhkaa

/-! Dec8a -/
namespace Go.Proofs.Ytimbchkoomjhkaa
open Go.RowKit

theorem inI_I64 {c : Int} (h : inI c = true) : I64n c := by
  unfold inI at h
  rw [decide_eq_true_iff] at h
  exact h
/-- the decomposer as a value -/
def decV (k : Bool) (M : Nat) : Value := .agg #[.bool k, .map (some M)]
def decBox (k : Bool) (M : Nat) : Obj := .cells #[.bool k, .map (some M)] 90

theorem loadD {k : Bool} {M B : Nat} {w : World} (h : Box 90 [.bool k, .map (some M)] B w) : (loadVar 90 ⟨B, 0, none⟩).run Try.prog w = .ok (decV k M) w := by
  have k0 := h.cell 0
  have k1 := h.cell 1
  simp only [List.getElem?_cons_zero, List.getElem?_cons_succ] at k0 k1
  simp [go_sem, k0, k1, decV]
theorem newDec8 (k : Bool) (w : World) : Calls Try.prog 61 #[.bool k] w fun e w' => ∃ M, e = .returned (decV k M) ∧ w.heap.size ≤ M ∧ w'.heap[M]? = some (.map #[] 0) ∧ Below w.heap.size w w' := by
  go_enter Try.func61, Try.ntmps61
  go_wp2_with (fail)
  simp only [run_makeMap, Result.andThen]
  go_wp2
  refine bodyPost_ret (results_one rfl rfl (loadD (show Box 90 [.bool k, .map (some (w.heap.size + 1))] w.heap.size _ from (Box.made w 90 _).alloc _))) rfl ⟨w.heap.size + 1, rfl, by omega, ?_, by (repeat (first | exact Below.refl _ _ | exact below_drewN _ | refine Below.drew ?_ | refine Below.alloc ?_ (by simp) _ | refine Below.setCell ?_ (by simp) _ | refine below_drewN' ?_ _))⟩
  have := World.alloc_heap_new (w.alloc (.cells #[.bool k, .map (some (w.heap.size + 1))] 90)) (.map #[] 0)
  rwa [World.size_alloc] at this

set_option maxHeartbeats 1000000 in
theorem lookUp8 (k : Bool) (M : Nat) (c : Int) (w : World) : Calls Try.prog 101 #[decV k M, .int .i64 c] w fun e w' => ∃ x, e = .returned x ∧ Own .i64 3 w.heap.size w' x (stepS k c) ∧ Below w.heap.size w w' := by
  unfold decV
  have bD := Box.made w 90 [.bool k, .map (some M)]
  have HBD := hid bD
  clear bD
  by_cases hc : canonS c = []
  · have HCE := hid hc
    cases k with
    | true =>
      have HP := hid (show stepS true c = mapS tabCompat c by unfold stepS; rw [hc]; rfl)
      clear hc
      go_enter Try.func101, Try.ntmps101
      go_wp2_with (first
        | (go_at_call 22; refine (ucdCanonO c _).mono ?_; rintro e w2 ⟨v2, rfl, ho2, hb2⟩; have HB2 := hid hb2; rw [HCE.out] at ho2; obtain ⟨a2, c2, hv2⟩ := ho2.sl.form; subst hv2; simp only [List.length_nil]; have d0 := (HBD.out.below hb2 HBD.out.lt).cell 0; have d1 := (HBD.out.below hb2 HBD.out.lt).ice 0; simp only [List.getElem?_cons_zero] at d0; clear ho2 hb2)
        | (go_at_call 105; refine (ucdCompatO c _).mono ?_; rintro e w3 ⟨v3, rfl, ho3, hb3⟩; have HO3 := hid ho3; have HB3 := hid (HB2.out.trans (hb3.mono HB2.out.size)); clear ho3 hb3))
      go_ret
      exact ⟨_, rfl, by rw [HP.out]; exact HO3.out.mono (by have := HB2.out.size; simp at this; omega), ((Below.refl _ w).alloc (Nat.le_refl _) _).trans (HB3.out.mono (by simp))⟩
    | false =>
      have HP := hid (show stepS false c = canonS c by unfold stepS; rw [hc]; rfl)
      clear hc
      go_enter Try.func101, Try.ntmps101
      go_wp2_with (go_at_call 22; refine (ucdCanonO c _).mono ?_; rintro e w2 ⟨v2, rfl, ho2, hb2⟩; have HB2 := hid hb2; have HO2 := hid ho2; rw [HCE.out] at ho2; obtain ⟨a2, c2, hv2⟩ := ho2.sl.form; subst hv2; simp only [List.length_nil]; have d0 := (HBD.out.below hb2 HBD.out.lt).cell 0; have d1 := (HBD.out.below hb2 HBD.out.lt).ice 0; simp only [List.getElem?_cons_zero] at d0; clear ho2 hb2)
      go_ret
      exact ⟨_, rfl, by rw [HP.out]; exact HO2.out.mono (by simp), ((Below.refl _ w).alloc (Nat.le_refl _) _).trans (HB2.out.mono (by simp))⟩
  · have HP := hid (show stepS k c = canonS c from step_canon hc)
    obtain ⟨n, hn⟩ : ∃ n, n = (canonS c).length := ⟨_, rfl⟩
    have hn0 : 0 < n := by rw [hn]; exact List.length_pos_iff.2 hc
    have HN := hid hn
    clear hc hn
    go_enter Try.func101, Try.ntmps101
    go_wp2_with (go_at_call 22; refine (ucdCanonO c _).mono ?_; rintro e w2 ⟨v2, rfl, ho2, hb2⟩; have HB2 := hid hb2; have HO2 := hid ho2; obtain ⟨a2, c2, hv2⟩ := ho2.sl.form; rw [← HN.out] at hv2; subst hv2; clear ho2 hb2)
    go_ret
    exact ⟨_, rfl, by rw [HP.out]; exact HO2.out.mono (by simp), ((Below.refl _ w).alloc (Nat.le_refl _) _).trans (HB2.out.mono (by simp))⟩
/-- the Z, and what is new -/
def Zn (Z : Nat → Prop) (w w' : World) (b : Nat) : Prop := (∃ o : Obj, w'.heap[b]? = some o ∧ o.isCells = true) ∧ (Z b ∨ w.heap.size ≤ b)
theorem same_cells {w w' : World} {M : Nat} {Z : Nat → Prop} (hZ : ∀ b, Z b → ∃ o : Obj, w.heap[b]? = some o ∧ o.isCells = true) (hM : NoCells w (some M)) (hg : w.grownBy w' (some M)) {b : Nat} (hb : Z b) : w'.heap[b]? = w.heap[b]? ∧ Zn Z w w' b := by
  obtain ⟨o, ho, hc⟩ := hZ b hb
  have hs : w'.heap[b]? = w.heap[b]? := hg.block b (Array.getElem?_eq_some_iff.1 ho).1 (fun e => by
    obtain ⟨o', ho', hc'⟩ := hM b e.symm
    rw [ho] at ho'
    cases ho'
    rw [hc] at hc'
    cases hc')
  exact ⟨hs, ⟨o, hs.trans ho, hc⟩, .inl hb⟩
theorem grown_some {w w' : World} (M : Nat) (hb : Below w.heap.size w w') : w.grownBy w' (some M) := ⟨hb.os, hb.tape, hb.output, hb.size, fun k hk _ => hb.block k hk⟩
theorem mapZ_add {f : Int → List Int} {Z : Nat → Prop} {M e : Nat} {w w2 w' : World} {es es' : Array MapEntry} {clock clock' : Nat} {c : Int} {x : Value} (hZ : ∀ b, Z b → ∃ o : Obj, w.heap[b]? = some o ∧ o.isCells = true)
    (hm : w.heap[M]? = some (.map es clock)) (he : ∀ y ∈ es.toList, ∃ c, y.key = .int .i64 c ∧ inI c = true ∧ SlZ Z w y.val (f c)) (h12 : Below w.heap.size w w2) (ho : Own .i64 e w.heap.size w2 x (f c))
    (hg : w2.grownBy w' (some M)) (hM' : w'.heap[M]? = some (.map es' clock')) (hx : ∀ y ∈ es'.toList, y ∈ es.toList ∨ (y.key = .int .i64 c ∧ y.val = x)) (hi : inI c = true) :
    w.grownBy w' (some M) ∧ MapZ f (Zn Z w w') M w' ∧ SlZ (Zn Z w w') w' x (f c) := by
  have hml := (Array.getElem?_eq_some_iff.1 hm).1
  have hg' : w.grownBy w' (some M) := ⟨hg.os.trans h12.os, hg.tape.trans h12.tape, hg.output.trans h12.output, Nat.le_trans h12.size hg.size, fun k hk hne => (hg.block k (Nat.lt_of_lt_of_le hk h12.size) hne).trans (h12.block k hk)⟩
  have hnc : NoCells w (some M) := fun r e => by cases e; exact ⟨_, hm, rfl⟩
  have hxs : SlZ (Zn Z w w') w' x (f c) := ho.slZ.move hg.size (fun b hb => by
    obtain ⟨hb1, o, hb2, hb3⟩ := hb
    have hs : w'.heap[b]? = w2.heap[b]? := hg.block b (Array.getElem?_eq_some_iff.1 hb2).1 (fun e => by
      have e' : b = M := by simpa using e
      omega)
    exact ⟨hs, ⟨o, hs.trans hb2, hb3⟩, .inr hb1⟩)
  refine ⟨hg', ⟨es', clock', hM', fun y hy => ?_⟩, hxs⟩
  rcases hx y hy with hy | ⟨h1, h2⟩
  · obtain ⟨c', h1, h2, h3⟩ := he y hy
    exact ⟨c', h1, h2, h3.move hg'.size (fun b hb => same_cells hZ hnc hg' hb)⟩
  · exact ⟨c, h1, hi, by rw [h2]; exact hxs⟩

set_option maxHeartbeats 1000000 in
theorem parts8 (k : Bool) (M : Nat) (c : Int) (w : World) (Z : Nat → Prop) (hi : inI c = true) (hZ : ∀ b, Z b → ∃ o : Obj, w.heap[b]? = some o ∧ o.isCells = true) (hm : MapZ (stepS k) Z M w) :
    Calls Try.prog 94 #[decV k M, .int .i64 c] w fun e w' => ∃ x, e = .returned x ∧ w.grownBy w' (some M) ∧ MapZ (stepS k) (Zn Z w w') M w' ∧ SlZ (Zn Z w w') w' x (stepS k c) := by
  have hnc := hm.nocells
  have hml := hm.lt
  have hmv : MapZ (stepS k) (Zn Z w (w.alloc (decBox k M))) M (w.alloc (decBox k M)) := hm.move (by simp) (Below.heap_alloc _ _ _ hml) (fun b hb => same_cells hZ hnc (grown_some M ((Below.refl _ w).alloc (Nat.le_refl _) _)) hb)
  have hgr := grown_some M ((Below.refl _ w).alloc (Nat.le_refl _) (decBox k M))
  obtain ⟨es, clock, hme, hes⟩ := hm
  have hks : IntKeys es := fun y hy => by obtain ⟨c', h1, h2, _⟩ := hes y hy; exact ⟨c', h1, h2⟩
  have hme1 : (w.alloc (decBox k M)).heap[M]? = some (.map es clock) := (Below.heap_alloc _ _ _ hml).trans hme
  have hzv : (zeroValue 22).run Try.prog (w.alloc (decBox k M)) = .ok (.slice none 0 0) (w.alloc (decBox k M)) := by kernel_rfl
  have HBD := hid (Box.made w 90 [.bool k, .map (some M)])
  have HMV := hid hmv
  have HGR := hid hgr
  have HES := hid hes
  have HZZ := hid hZ
  have HNC := hid hnc
  have HKS := hid hks
  have HME := hid hme
  unfold decV
  clear hmv hgr hes hZ hnc
  rcases look_ints (P := Try.prog) (T := 50) Try.underlying50 Try.underlying3 hzv hme1 hks hi with hlook | ⟨e0, he0, hek, hlook⟩
  · unfold decBox at hlook
    clear hzv hme1 hks hme
    go_enter Try.func94, Try.ntmps94
    go_wp2_with (first
      | (at_lookup; refine wpList_lookInts rfl _ _ 50 rfl M c rfl rfl hlook ?_)
      | (go_at_call 101; refine (lookUp8 k M c _).mono ?_; rintro e w2 ⟨v2, rfl, ho2, hb2⟩; have d0 := (HBD.out.below hb2 HBD.out.lt).cell 0; have d1 := (HBD.out.below hb2 HBD.out.lt).ice 0; have d2 := (HBD.out.below hb2 HBD.out.lt).cell 1; have d3 := (HBD.out.below hb2 HBD.out.lt).ice 1; simp only [List.getElem?_cons_zero, List.getElem?_cons_succ] at d0 d2; have HB2 := hid hb2; have HO2 := hid ho2; obtain ⟨w3, hst, hg3, es3, ck3, hM3, hx3⟩ := store_ints (P := Try.prog) (T := 50) Try.underlying50 Try.underlying3 ((hb2.block M (by simp; omega)).trans ((Below.heap_alloc _ _ _ hml).trans HME.out)) HKS.out hi v2; have HG3 := hid hg3; have HM3 := hid hM3; have HX3 := hid hx3; clear ho2 hb2 hg3 hM3 hx3)
      | (at_mapUpdate; refine wpList_storeInts rfl _ _ _ 50 rfl M c v2 rfl rfl rfl hst ?_))
    go_ret
    exact ⟨_, rfl, mapZ_add HZZ.out HME.out HES.out (((Below.refl _ w).alloc (Nat.le_refl _) _).trans (HB2.out.mono (by simp))) (HO2.out.mono (by simp)) HG3.out HM3.out HX3.out hi⟩
  · unfold decBox at hlook
    clear hzv hme1 hks hme
    go_enter Try.func94, Try.ntmps94
    go_wp2_with (at_lookup; refine wpList_lookInts rfl _ _ 50 rfl M c rfl rfl hlook ?_)
    go_ret
    refine ⟨_, rfl, HGR.out, HMV.out, ?_⟩
    obtain ⟨c', h1, _, h3⟩ := HES.out e0 he0
    rw [hek] at h1
    cases h1
    exact h3.move (by simp) (fun b hb => same_cells HZZ.out HNC.out HGR.out hb)
end Go.Proofs.Ytimbchkoomjhkaa

/-! Dec8b -/
namespace Go.Proofs.Ytimbchkoomjhkaa
open Go.RowKit

/-- an iterator over a slice -/
def StV (Z : Nat → Prop) (W : World) (b : Nat) (xs : List Int) : Prop := ∃ v, Boxed W b 22 v ∧ Z b ∧ SlZ Z W v xs
/-- an iterator over the decompositions of a slice's numbers -/
def StE (k : Bool) (M : Nat) (Z : Nat → Prop) (W : World) (b3 b2 : Nat) (ps : List Int) : Prop := StV Z W b3 ps ∧ Z b2 ∧ W.heap[b2]? = some (decBox k M)
theorem StV.move {Z Z' : Nat → Prop} {W W' : World} {b : Nat} {xs : List Int} (h : StV Z W b xs) (hs : W.heap.size ≤ W'.heap.size) (hz : ∀ b, Z b → W'.heap[b]? = W.heap[b]? ∧ Z' b) : StV Z' W' b xs := by
  obtain ⟨v, hv, hb, hx⟩ := h
  exact ⟨v, (hz b hb).1.trans hv, (hz b hb).2, hx.move hs hz⟩
theorem StE.move {k : Bool} {M : Nat} {Z Z' : Nat → Prop} {W W' : World} {b3 b2 : Nat} {ps : List Int} (h : StE k M Z W b3 b2 ps) (hs : W.heap.size ≤ W'.heap.size) (hz : ∀ b, Z b → W'.heap[b]? = W.heap[b]? ∧ Z' b) : StE k M Z' W' b3 b2 ps :=
  ⟨h.1.move hs hz, (hz b2 h.2.1).2, (hz b2 h.2.1).1.trans h.2.2⟩
def fnV (b : Nat) : Value := .func (.func 100) #[] #[.pointer (some ⟨b, 0, none⟩)]
def fnE (b3 b2 : Nat) : Value := .func (.func 81) #[] #[.pointer (some ⟨b3, 0, none⟩), .pointer (some ⟨b2, 0, none⟩)]
/-- fv is an iterator that gives xs -/
def IterOf (k : Bool) (M d : Nat) (Z : Nat → Prop) (W : World) (fv : Value) (xs : List Int) : Prop :=
  (∃ b, fv = fnV b ∧ StV Z W b xs) ∨ (∃ b3 b2 ps, fv = fnE b3 b2 ∧ StE k M Z W b3 b2 ps ∧ xs = allS k ps ∧ ∀ c ∈ ps, deepP k d c)

theorem zn_old {Z : Nat → Prop} {w w' : World} (hZ : ∀ b, Z b → ∃ o : Obj, w.heap[b]? = some o ∧ o.isCells = true) (hb : Below w.heap.size w w') : ∀ b, Z b → w'.heap[b]? = w.heap[b]? ∧ Zn Z w w' b := fun b hz => by
  obtain ⟨o, ho, hc⟩ := hZ b hz
  have hs := hb.block b (Array.getElem?_eq_some_iff.1 ho).1
  exact ⟨hs, ⟨o, hs.trans ho, hc⟩, .inl hz⟩
theorem values8 (v : Value) (xs : List Int) (w : World) (Z : Nat → Prop) (hZ : ∀ b, Z b → ∃ o : Obj, w.heap[b]? = some o ∧ o.isCells = true) (h : SlZ Z w v xs) :
    Calls Try.prog 93 #[v] w fun e w' => e = .returned (fnV w.heap.size) ∧ StV (Zn Z w w') w' w.heap.size xs ∧ Below w.heap.size w w' := by
  have hb : Below w.heap.size w (w.alloc (.cells #[v] 22)) := (Below.refl _ w).alloc (Nat.le_refl _) _
  have hbx := Boxed.new w 22 v
  have hst : StV (Zn Z w (w.alloc (.cells #[v] 22))) (w.alloc (.cells #[v] 22)) w.heap.size xs := ⟨v, hbx, ⟨⟨_, hbx, rfl⟩, .inr (Nat.le_refl _)⟩, h.move (by simp) (zn_old hZ hb)⟩
  have HST := hid hst
  obtain ⟨a, cap, hv⟩ := h.1.form
  subst hv
  clear hst hbx h hZ
  go_enter Try.func93, Try.ntmps93
  go_wp2_with (fail)
  go_ret
  exact ⟨rfl, HST.out, hb⟩
theorem each8 (k : Bool) (M : Nat) (v : Value) (xs : List Int) (w : World) (Z : Nat → Prop) (hZ : ∀ b, Z b → ∃ o : Obj, w.heap[b]? = some o ∧ o.isCells = true) (h : SlZ Z w v xs) :
    Calls Try.prog 62 #[decV k M, v] w fun e w' => e = .returned (fnE (w.heap.size + 1) w.heap.size) ∧ StE k M (Zn Z w w') w' (w.heap.size + 1) w.heap.size xs ∧ Below w.heap.size w w' := by
  have hb : Below w.heap.size w ((w.alloc (decBox k M)).alloc (.cells #[v] 22)) := ((Below.refl _ w).alloc (Nat.le_refl _) _).alloc (by simp) _
  have hbx := Boxed.new (w.alloc (decBox k M)) 22 v
  rw [World.size_alloc] at hbx
  have hbd : ((w.alloc (decBox k M)).alloc (.cells #[v] 22)).heap[w.heap.size]? = some (decBox k M) := (Below.heap_alloc _ _ _ (by simp)).trans (World.alloc_heap_new w _)
  have hst : StE k M (Zn Z w ((w.alloc (decBox k M)).alloc (.cells #[v] 22))) ((w.alloc (decBox k M)).alloc (.cells #[v] 22)) (w.heap.size + 1) w.heap.size xs :=
    ⟨⟨v, hbx, ⟨⟨_, hbx, rfl⟩, .inr (Nat.le_succ _)⟩, h.move (by simp; omega) (zn_old hZ hb)⟩, ⟨⟨_, hbd, rfl⟩, .inr (Nat.le_refl _)⟩, hbd⟩
  have HST := hid hst
  obtain ⟨a, cap, hv⟩ := h.1.form
  subst hv
  unfold decV
  unfold decBox at hb HST
  clear hst hbx hbd h hZ
  go_enter Try.func62, Try.ntmps62
  go_wp2_with (fail)
  go_ret
  exact ⟨rfl, HST.out, hb⟩

theorem IterOf.move {k : Bool} {M d : Nat} {Z Z' : Nat → Prop} {W W' : World} {fv : Value} {xs : List Int} (h : IterOf k M d Z W fv xs) (hs : W.heap.size ≤ W'.heap.size) (hz : ∀ b, Z b → W'.heap[b]? = W.heap[b]? ∧ Z' b) : IterOf k M d Z' W' fv xs := by
  rcases h with ⟨b, h1, h2⟩ | ⟨b3, b2, ps, h1, h2, h3⟩
  · exact .inl ⟨b, h1, h2.move hs hz⟩
  · exact .inr ⟨b3, b2, ps, h1, h2.move hs hz, h3⟩
end Go.Proofs.Ytimbchkoomjhkaa
