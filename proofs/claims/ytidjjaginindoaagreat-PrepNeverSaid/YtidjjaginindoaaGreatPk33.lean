/- Several texts in one: UcdO. -/
import Derived.Test.YtidjjaginindoaaGreatPk12
/-! UcdO -/
namespace Go.Proofs.YtidjjaginindoaaGreat
open Go.RowKit

/-- the value v is a slice that holds the list l, and each list in it is the call's own -/
def SmO (base : Nat) (w : World) (v : Value) (l : List Mp) : Prop :=
  ∃ a cap, v = .slice a l.length cap ∧ l.length ≤ cap ∧ cap ≤ maxLen ∧
    (cap = 0 ∨ ∃ b off, a = some ⟨b, off, none⟩ ∧ (0 < l.length → b < w.heap.size) ∧ ∀ i, i < l.length →
      w.cell? ⟨b, off + i * 2, none⟩ = some (.int .i64 (l.getD i noMp).f) ∧ ∃ u, w.cell? ⟨b, off + i * 2 + 1, none⟩ = some u ∧ Own .i64 3 base w u (l.getD i noMp).t)
theorem SmO.below {base : Nat} {w w' : World} {v : Value} {l : List Mp} (h : SmO base w v l) (hb : Below w.heap.size w w') : SmO base w' v l := by
  obtain ⟨a, cap, hv, hl, hm, h⟩ := h
  refine ⟨a, cap, hv, hl, hm, ?_⟩
  rcases h with h | ⟨b, off, ha, hbb, hc⟩
  · exact .inl h
  · refine .inr ⟨b, off, ha, fun h0 => Nat.lt_of_lt_of_le (hbb h0) hb.size, fun i hi => ?_⟩
    obtain ⟨h1, u, h2, h3⟩ := hc i hi
    have hlt := hbb (by omega)
    exact ⟨(hb.cell (p := ⟨b, off + i * 2, none⟩) hlt).trans h1, u, (hb.cell (p := ⟨b, off + i * 2 + 1, none⟩) hlt).trans h2, h3.below hb⟩
theorem SmO.form {base : Nat} {w : World} {v : Value} {l : List Mp} (h : SmO base w v l) : ∃ a c, v = .slice a l.length c := by
  obtain ⟨a, c, rfl, -, -, -⟩ := h
  exact ⟨a, c, rfl⟩
theorem SmO.len {base : Nat} {w : World} {v : Value} {l : List Mp} (h : SmO base w v l) : l.length ≤ 9223372036854775807 := by
  obtain ⟨a, cap, _, hl, hm, _⟩ := h
  unfold maxLen at hm
  omega
theorem OwnM.smO {e base : Nat} {w : World} {v : Value} {l : List Mp} (h : OwnM e base w v l) : SmO base w v l := by
  obtain ⟨us, hts, h1, h2⟩ := h
  have hlen := mv_len hts.len
  rcases h2 with ⟨rfl, hn⟩ | ⟨g, cap, cur, rfl, hb, hg, hnc, hcm, hcs, ht⟩
  · exact ⟨none, 0, by rw [hn], by omega, by unfold maxLen; omega, .inl rfl⟩
  · have key : ∀ j, j < l.length * 2 → w.cell? ⟨g, 0 + j, none⟩ = (mv l us)[j]? := fun j hj => by
      rw [cell_of_row w g (0 + j) cur e (0, 0) hg, ← ht, List.getElem?_take, if_pos hj]
      simp
    refine ⟨some ⟨g, 0, none⟩, cap, rfl, hnc, hcm, .inr ⟨g, 0, rfl, fun _ => (Array.getElem?_eq_some_iff.1 hg).1, fun i hi => ?_⟩⟩
    obtain ⟨u, a1, a2, a3⟩ := hts.at hi
    exact ⟨(key (i * 2) (by omega)).trans a1, u, (key (i * 2 + 1) (by omega)).trans a2, a3⟩

set_option maxHeartbeats 2000000 in
theorem ucdFindMO (base : Nat) (v : Value) (l : List Mp) (c : Int) (w : World) (h : SmO base w v l) :
    Calls Tryz.prog 138 #[.agg #[v, .func (.func 143) #[] #[]], .int .i64 c] w fun e w' =>
      ∃ x, e = .returned (.tuple #[.agg #[.int .i64 (fndM c l).1.f, x], .bool (fndM c l).2]) ∧ Own .i64 3 base w' x (fndM c l).1.t ∧ Below w.heap.size w w' := by
  have ml := h.len
  obtain ⟨a1, cap1, rfl, q1, -, h1⟩ := h
  obtain ⟨n, hn⟩ : ∃ n, n = l.length := ⟨_, rfl⟩
  obtain ⟨R, hR⟩ : ∃ R, R = fndM c l := ⟨_, rfl⟩
  have hH : ∀ k, k < n → (∀ i, i < k → ((l.getD i noMp).f == c) = false) → ((l.getD k noMp).f == c) = true → R = (l.getD k noMp, true) := fun k hk ha hh => hR.trans (fndM_hit (by omega) ha hh)
  have hN : (∀ i, i < n → ((l.getD i noMp).f == c) = false) → R = (noMp, false) := fun ha => hR.trans (fndM_none (by rw [← hn]; exact ha))
  rw [← hR]
  have HH := hid hH
  have HN := hid hN
  have H1 := hid h1
  rw [← hn] at ml q1 H1 ⊢
  clear hH hN h1 hn hR
  go_enter Tryz.func138, Tryz.ntmps138
  go_wp2_with (fail)
  go_loopw [12] (fun iv wr => ∃ k : Nat, k ≤ n ∧ iv = .int .i64 k ∧ Hid (Box 138 [.slice a1 n cap1, .func (.func 143) #[] #[]] w.heap.size wr) ∧ Hid (Box 97 [.int .i64 0, .slice none 0 0] (w.heap.size + 1) wr) ∧ Hid (Below w.heap.size w wr) ∧ Hid (∀ i, i < k → ((l.getD i noMp).f == c) = false)) (fun iv _ => n - (intOf iv).toNat)
  case atStart => exact ⟨0, by omega, rfl, (Box.made w 138 _).alloc _, box_last _ _ _ _, by (repeat (first | exact Below.refl _ _ | exact below_drewN _ | refine Below.drew ?_ | refine Below.alloc ?_ (by simp) _ | refine Below.setCell ?_ (by simp) _ | refine below_drewN' ?_ _)), fun i hi => absurd hi (by omega)⟩
  case round =>
    obtain ⟨k, hk, rfl, hbt, hbr, hbel, hall⟩ := hrel
    have hsz := hbr.out.lt
    by_cases hlt : k < n
    · rcases H1.out with hc | ⟨b1, o1, rfl, hb1, c1⟩
      · omega
      have hb1' := hb1 (by omega)
      obtain ⟨d1, ux, d2, d3⟩ := c1 k hlt
      have d1 := (hbel.out.cell (p := ⟨b1, o1 + k * 2, none⟩) hb1').trans d1
      have d2 := (hbel.out.cell (p := ⟨b1, o1 + k * 2 + 1, none⟩) hb1').trans d2
      have HD := hid d3
      clear d3
      have hh := hid (HH.out k hlt hall.out)
      have HNX := hid (show ((l.getD k noMp).f == c) = false → ∀ i, i < k + 1 → ((l.getD i noMp).f == c) = false from fun he i hi => by
        rcases Nat.lt_or_ge i k with h | h
        · exact hall.out i h
        · obtain rfl : i = k := by omega
          exact he)
      clear c1
      generalize l.getD k noMp = r at d1 d2 HD hh HNX
      obtain ⟨rf, rt⟩ := r
      simp only at d1 d2 HD hh HNX
      obtain ⟨au, cu, hux⟩ := HD.out.sl.form
      obtain ⟨nr, hnr⟩ : ∃ nr, nr = rt.length := ⟨_, rfl⟩
      rw [← hnr] at hux
      subst hux
      clear hnr
      obtain ⟨b, hb⟩ : ∃ b, b = (rf == c) := ⟨_, rfl⟩
      rw [← hb] at hh HNX
      replace hb := hb.symm
      have HBW := hid (show Below wr.heap.size wr (wr.alloc (.cells #[.int .i64 rf, (.slice au nr cu)] 97)) by (repeat (first | exact Below.refl _ _ | exact below_drewN _ | refine Below.drew ?_ | refine Below.alloc ?_ (by simp) _ | refine Below.setCell ?_ (by simp) _ | refine below_drewN' ?_ _)))
      have HNW := hid (Box.made wr 97 [.int .i64 rf, (.slice au nr cu)])
      have HRA := hid (hbr.out.alloc (.cells #[.int .i64 rf, (.slice au nr cu)] 97))
      have HTA := hid (hbt.out.alloc (.cells #[.int .i64 rf, (.slice au nr cu)] 97))
      have x1 := HTA.out.cell 1
      simp only [List.getElem?_cons_zero, List.getElem?_cons_succ] at x1
      cases b with
      | true =>
        have hr := hid (hh.out rfl)
        go_wp2_with (go_at_call 143; refine (ucdFrom rf (.slice au nr cu) _).mono ?_; rintro e wu ⟨rfl, hbu⟩; have HBU := hid (hbel.out.trans ((HBW.out.trans (hbu.mono HBW.out.size)).mono hbel.out.size)); have HRU := hid (HRA.out.below hbu HRA.out.lt); have HNU := hid (HNW.out.below hbu HNW.out.lt); clear hbu; have y2 := HNU.out.cell 0; have y3 := HNU.out.cell 1; have z0 := HRU.out.ice 0; have z1 := HRU.out.ice 1; have w0 := HRU.out.cell 0; have w1 := HRU.out.cell 1; simp only [List.getElem?_cons_zero, List.getElem?_cons_succ] at w0 w1 y2 y3)
        refine bodyPost_ret (results_two rfl rfl (loadMp (HRU.out.pair _ _))) rfl ⟨.slice au nr cu, by rw [hr.out]; rfl, by rw [hr.out]; exact HD.out.below (below_pair HBU.out (by omega)), below_pair HBU.out (by omega)⟩
      | false =>
        have hr := hid (HNX.out rfl)
        go_wp2_with (go_at_call 143; refine (ucdFrom rf (.slice au nr cu) _).mono ?_; rintro e wu ⟨rfl, hbu⟩; have HBU := hid (hbel.out.trans ((HBW.out.trans (hbu.mono HBW.out.size)).mono hbel.out.size)); have HRU := hid (HRA.out.below hbu HRA.out.lt); have HTU := hid (HTA.out.below hbu HTA.out.lt); clear hbu)
        go_roundw
        case rel => exact ⟨k + 1, by omega, by go_num, HTU.out, HRU.out, HBU.out, hr.out⟩
        case measure => simp [intOf]; omega
    · obtain rfl : k = n := by omega
      have hr := hid (HN.out hall.out)
      have z0 := hbr.out.ice 0
      have z1 := hbr.out.ice 1
      have w0 := hbr.out.cell 0
      have w1 := hbr.out.cell 1
      simp only [List.getElem?_cons_zero, List.getElem?_cons_succ] at w0 w1
      have HB3 := hid (below_pair (B := w.heap.size + 1) (a := .int .i64 0) (b := .slice none 0 0) hbel.out (by omega))
      have HR3 := hid (hbr.out.pair (.int .i64 0) (.slice none 0 0))
      go_wp2_with (fail)
      refine bodyPost_ret (results_two rfl rfl (loadMp (HR3.out.alloc _))) rfl ⟨_, by rw [hr.out]; rfl, by rw [hr.out]; exact Own.nil _ _ _ _, HB3.out.alloc HB3.out.size _⟩

set_option maxHeartbeats 1000000 in
theorem ucdMappedO (base : Nat) (v : Value) (l : List Mp) (c : Int) (w : World) (h : SmO base w v l) : Calls Tryz.prog 133 #[v, .int .i64 c] w fun e w' => ∃ x, e = .returned x ∧ Own .i64 3 base w' x (mapS l c) ∧ Below w.heap.size w w' := by
  have HS := hid h
  obtain ⟨av, cv, hv⟩ := h.form
  obtain ⟨n, hn⟩ : ∃ n, n = l.length := ⟨_, rfl⟩
  rw [← hn] at hv
  subst hv
  clear hn h
  obtain ⟨b, hb⟩ : ∃ b, b = scalarB c := ⟨_, rfl⟩
  cases b with
  | false =>
    have HR := hid (mapS_f (l := l) hb.symm)
    have HB := hid hb
    clear hb
    go_enter Tryz.func133, Tryz.ntmps133
    go_wp2_with (go_at_call 52; refine (ucdScalar c _).mono ?_; rw [← HB.out]; rintro e w1 ⟨rfl, rfl⟩)
    go_ret
    exact ⟨_, rfl, by rw [← HR.out]; exact Own.nil _ _ _ _, Below.refl _ _⟩
  | true =>
    have HR := hid (mapS_t (l := l) hb.symm)
    have HB := hid hb
    clear hb
    go_enter Tryz.func133, Tryz.ntmps133
    go_wp2_with (first
      | (go_at_call 52; refine (ucdScalar c _).mono ?_; rw [← HB.out]; rintro e w1 ⟨rfl, rfl⟩)
      | (go_at_call 137; refine (ucdMappings av n cv _).mono ?_; rintro e w2 ⟨rfl, hb2⟩; have HB2 := hid hb2; clear hb2)
      | (go_at_call 138; refine (ucdFindMO base (.slice av n cv) l c w2 (HS.out.below HB2.out)).mono ?_; rw [HR.out]; rintro e w3 ⟨x3, rfl, hs3, hb3⟩; have HS3 := hid hs3; have HB3 := hid (HB2.out.trans (hb3.mono HB2.out.size)); obtain ⟨a3, c3, hx3⟩ := hs3.sl.form; obtain ⟨n3, hn3⟩ : ∃ n3, n3 = (mapS l c).length := ⟨_, rfl⟩; rw [← hn3] at hx3; subst hx3; clear hs3 hb3 hn3))
    go_ret
    have hb4 : Below w3.heap.size w3 (w3.alloc (.cells #[.int .i64 (fndM c l).1.f, .slice a3 n3 c3] 97)) := by (repeat (first | exact Below.refl _ _ | exact below_drewN _ | refine Below.drew ?_ | refine Below.alloc ?_ (by simp) _ | refine Below.setCell ?_ (by simp) _ | refine below_drewN' ?_ _))
    exact ⟨_, rfl, HS3.out.below hb4, HB3.out.trans (hb4.mono HB3.out.size)⟩

theorem ucdCompatO (c : Int) (w : World) : Calls Tryz.prog 142 #[.int .i64 c] w fun e w' => ∃ x, e = .returned x ∧ Own .i64 3 w.heap.size w' x (mapS tabCompat c) ∧ Below w.heap.size w w' := by
  go_enter Tryz.func142, Tryz.ntmps142
  go_wp2_with (first
    | (go_at_call 56; refine (apiCompat w).mono ?_; rintro e w1 ⟨v1, rfl, hs1, hb1⟩; have HS1 := hid hs1.smO; have HB1 := hid hb1; clear hs1 hb1)
    | (go_at_call 133; refine (ucdMappedO w.heap.size v1 tabCompat c w1 HS1.out).mono ?_; rintro e w2 ⟨x2, rfl, hs2, hb2⟩; have HS2 := hid hs2; have HB2 := hid hb2; clear hs2 hb2))
  go_ret
  exact ⟨_, rfl, HS2.out, HB1.out.trans (HB2.out.mono HB1.out.size)⟩
theorem ucdFoldO (c : Int) (w : World) : Calls Tryz.prog 120 #[.int .i64 c] w fun e w' => ∃ x, e = .returned x ∧ Own .i64 3 w.heap.size w' x (mapS tabFolds c) ∧ Below w.heap.size w w' := by
  go_enter Tryz.func120, Tryz.ntmps120
  go_wp2_with (first
    | (go_at_call 57; refine (apiFolds w).mono ?_; rintro e w1 ⟨v1, rfl, hs1, hb1⟩; have HS1 := hid hs1.smO; have HB1 := hid hb1; clear hs1 hb1)
    | (go_at_call 133; refine (ucdMappedO w.heap.size v1 tabFolds c w1 HS1.out).mono ?_; rintro e w2 ⟨x2, rfl, hs2, hb2⟩; have HS2 := hid hs2; have HB2 := hid hb2; clear hs2 hb2))
  go_ret
  exact ⟨_, rfl, HS2.out, HB1.out.trans (HB2.out.mono HB1.out.size)⟩

set_option maxHeartbeats 2000000 in
theorem ucdCanonO (c : Int) (w : World) : Calls Tryz.prog 26 #[.int .i64 c] w fun e w' => ∃ x, e = .returned x ∧ Own .i64 3 w.heap.size w' x (canonS c) ∧ Below w.heap.size w w' := by
  obtain ⟨b, hb⟩ : ∃ b, b = scalarB c := ⟨_, rfl⟩
  cases b with
  | false =>
    have HR := hid (canonS_f hb.symm)
    have HB := hid hb
    clear hb
    go_enter Tryz.func26, Tryz.ntmps26
    go_wp2_with (go_at_call 52; refine (ucdScalar c _).mono ?_; rw [← HB.out]; rintro e w1 ⟨rfl, rfl⟩)
    go_ret
    exact ⟨_, rfl, by rw [← HR.out]; exact Own.nil _ _ _ _, Below.refl _ _⟩
  | true =>
    have hr := canonS_t hb.symm
    have HB := hid hb
    clear hb
    obtain ⟨R, hR⟩ : ∃ R, R = fndS (fun r => r.f == c) tabCanon := ⟨_, rfl⟩
    rw [← hR] at hr
    obtain ⟨⟨f, t, v⟩, ok⟩ := R
    have HF := hid (fun (w : World) (x : Value) (h : Sg w x tabCanon) => (show Calls Tryz.prog 54 #[.agg #[x, .func (.func 83) #[] #[]], .int .i64 c] w fun e w' => e = .returned (.tuple #[.agg #[.int .i64 f, .int .i64 t, .int .i64 v], .bool ok]) ∧ Below w.heap.size w w' by have := ucdFind1 x tabCanon c w h; rw [← hR] at this; exact this))
    clear hR
    cases ok with
    | false =>
      have HR := hid (show [] = canonS c from hr)
      clear hr
      go_enter Tryz.func26, Tryz.ntmps26
      go_wp2_with (first
        | (go_at_call 52; refine (ucdScalar c _).mono ?_; rw [← HB.out]; rintro e w1 ⟨rfl, rfl⟩)
        | (go_at_call 53; refine (ucdDecompositions _).mono ?_; rintro e w2 ⟨v2, rfl, hs2, hb2⟩; have HS2 := hid hs2; have HB2 := hid hb2; clear hs2 hb2)
        | (go_at_call 54; refine (HF.out w2 v2 HS2.out).mono ?_; rintro e w3 ⟨rfl, hb3⟩; have HB3 := hid (HB2.out.trans (hb3.mono HB2.out.size)); clear hb3))
      go_ret
      exact ⟨_, rfl, by rw [← HR.out]; exact Own.nil _ _ _ _, HB3.out.alloc HB3.out.size _⟩
    | true =>
      obtain ⟨y, hy⟩ : ∃ y, y = (v == 0) := ⟨_, rfl⟩
      have hr2 : (if y then [t] else [t, v]) = canonS c := by rw [hy]; exact hr
      clear hr
      replace hy := hy.symm
      cases y with
      | true =>
        have HR := hid (show [t] = canonS c from hr2)
        clear hr2
        go_enter Tryz.func26, Tryz.ntmps26
        go_wp2_with (first
          | (go_at_call 52; refine (ucdScalar c _).mono ?_; rw [← HB.out]; rintro e w1 ⟨rfl, rfl⟩)
          | (go_at_call 53; refine (ucdDecompositions _).mono ?_; rintro e w2 ⟨v2, rfl, hs2, hb2⟩; have HS2 := hid hs2; have HB2 := hid hb2; clear hs2 hb2)
          | (go_at_call 54; refine (HF.out w2 v2 HS2.out).mono ?_; rintro e w3 ⟨rfl, hb3⟩; have HB3 := hid (HB2.out.trans (hb3.mono HB2.out.size)); clear hb3))
        go_ret
        have HB4 := HB3.out.alloc HB3.out.size (.cells #[.int .i64 f, .int .i64 t, .int .i64 v] 66)
        exact ⟨_, rfl, by rw [← HR.out]; exact lit_own (by first | simp | rfl) (HB4.size) rfl rfl (by simp), HB4.alloc HB4.size _⟩
      | false =>
        have HR := hid (show [t, v] = canonS c from hr2)
        clear hr2
        go_enter Tryz.func26, Tryz.ntmps26
        go_wp2_with (first
          | (go_at_call 52; refine (ucdScalar c _).mono ?_; rw [← HB.out]; rintro e w1 ⟨rfl, rfl⟩)
          | (go_at_call 53; refine (ucdDecompositions _).mono ?_; rintro e w2 ⟨v2, rfl, hs2, hb2⟩; have HS2 := hid hs2; have HB2 := hid hb2; clear hs2 hb2)
          | (go_at_call 54; refine (HF.out w2 v2 HS2.out).mono ?_; rintro e w3 ⟨rfl, hb3⟩; have HB3 := hid (HB2.out.trans (hb3.mono HB2.out.size)); clear hb3))
        go_ret
        have HB4 := HB3.out.alloc HB3.out.size (.cells #[.int .i64 f, .int .i64 t, .int .i64 v] 66)
        exact ⟨_, rfl, by rw [← HR.out]; exact lit_own (by first | simp | rfl) (HB4.size) rfl rfl (by simp), HB4.alloc HB4.size _⟩
end Go.Proofs.YtidjjaginindoaaGreat
