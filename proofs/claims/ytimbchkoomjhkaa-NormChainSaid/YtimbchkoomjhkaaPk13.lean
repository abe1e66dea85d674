/- Several texts in one: Ref6b. -/
import Derived.Test.YtimbchkoomjhkaaPk3
import Derived.Test.YtimbchkoomjhkaaPk12
/-! Ref6b -/
namespace Go.Proofs.Ytimbchkoomjhkaa
open Go.RowKit

/-- the tables lie behind block B -/
def TabsAt (B : Nat) (w : World) : Prop := ∃ v1 v2 v3 v4 v5, Box 48 [v1, v2, v3, v4, v5] B w ∧ Sg w v1 tabCanon ∧ Sm w v2 tabCompat ∧ Sm w v3 tabFolds ∧ Sl .i64 w v4 exclL ∧ Sg w v5 tabClasses
theorem TabsAt.below {B : Nat} {w w' : World} (h : TabsAt B w) (hb : Below w.heap.size w w') : TabsAt B w' := by
  obtain ⟨v1, v2, v3, v4, v5, hx, h1, h2, h3, h4, h5⟩ := h
  exact ⟨v1, v2, v3, v4, v5, hx.below hb hx.lt, h1.below hb, h2.below hb, h3.below hb, h4.below hb, h5.below hb⟩

set_option maxHeartbeats 2000000 in
theorem refAll6 (w : World) : Calls Try.prog 10 #[] w fun e w' => ∃ B, e = .returned (.pointer (some ⟨B, 0, none⟩)) ∧ TabsAt B w' ∧ Below w.heap.size w w' := by
  go_enter Try.func10, Try.ntmps10
  go_wp2_with (first
    | (go_at_call 25; refine (apiCanon _).mono ?_; rintro e w1 ⟨v1, rfl, ho1, hb1⟩; have HO1 := hid ho1.sg; have HB1 := hid hb1; obtain ⟨a1, c1, hv1⟩ := ho1.form; obtain ⟨n1, hn1⟩ : ∃ n, n = tabCanon.length := ⟨_, rfl⟩; rw [← hn1] at hv1; subst hv1; clear ho1 hb1 hn1)
    | (go_at_call 26; refine (apiCompat _).mono ?_; rintro e w2 ⟨v2, rfl, ho2, hb2⟩; have HO2 := hid ho2.sm; have HB2 := hid hb2; obtain ⟨a2, c2, hv2⟩ := ho2.form; obtain ⟨n2, hn2⟩ : ∃ n, n = tabCompat.length := ⟨_, rfl⟩; rw [← hn2] at hv2; subst hv2; clear ho2 hb2 hn2)
    | (go_at_call 27; refine (apiFolds _).mono ?_; rintro e w3 ⟨v3, rfl, ho3, hb3⟩; have HO3 := hid ho3.sm; have HB3 := hid hb3; obtain ⟨a3, c3, hv3⟩ := ho3.form; obtain ⟨n3, hn3⟩ : ∃ n, n = tabFolds.length := ⟨_, rfl⟩; rw [← hn3] at hv3; subst hv3; clear ho3 hb3 hn3)
    | (go_at_call 28; refine (apiExcludedO _).mono ?_; rintro e w4 ⟨v4, rfl, ho4, hb4⟩; have HO4 := hid ho4.sl; have HB4 := hid hb4; obtain ⟨a4, c4, hv4⟩ := ho4.sl.form; obtain ⟨n4, hn4⟩ : ∃ n, n = exclL.length := ⟨_, rfl⟩; rw [← hn4] at hv4; subst hv4; clear ho4 hb4 hn4)
    | (go_at_call 29; refine (apiClasses _).mono ?_; rintro e w5 ⟨v5, rfl, ho5, hb5⟩; have HO5 := hid ho5; have HB5 := hid hb5; obtain ⟨a5, c5, hv5⟩ := ho5.form; obtain ⟨n5, hn5⟩ : ∃ n, n = tabClasses.length := ⟨_, rfl⟩; rw [← hn5] at hv5; subst hv5; clear ho5 hb5 hn5))
  go_ret
  have k6 : Below w5.heap.size w5 (w5.alloc (.cells #[.slice a1 n1 c1, .slice a2 n2 c2, .slice a3 n3 c3, .slice a4 n4 c4, .slice a5 n5 c5] 48)) := by (repeat (first | exact Below.refl _ _ | exact below_drewN _ | refine Below.drew ?_ | refine Below.alloc ?_ (by simp) _ | refine Below.setCell ?_ (by simp) _ | refine below_drewN' ?_ _))
  have k2 := HB1.out.trans (HB2.out.mono HB1.out.size)
  have k3 := k2.trans (HB3.out.mono k2.size)
  have k4 := k3.trans (HB4.out.mono k3.size)
  have k5 := k4.trans (HB5.out.mono k4.size)
  exact ⟨w5.heap.size, rfl, ⟨_, _, _, _, _, Box.made w5 _ [_, _, _, _, _], ((((HO1.out.below HB2.out).below HB3.out).below HB4.out).below HB5.out).below k6, (((HO2.out.below HB3.out).below HB4.out).below HB5.out).below k6, ((HO3.out.below HB4.out).below HB5.out).below k6, (HO4.out.below HB5.out).below k6, HO5.out.below k6⟩, k5.trans (k6.mono k5.size)⟩

theorem refTClass (B : Nat) (c : Int) (w : World) (h : TabsAt B w) : Calls Try.prog 41 #[.pointer (some ⟨B, 0, none⟩), .int .i64 c] w fun e w' => e = .returned (.int .i64 (classS c)) ∧ w = w' := by
  obtain ⟨v1, v2, v3, v4, v5, hx, h1, h2, h3, h4, h5⟩ := h
  have HS := hid h5
  have x4 := hx.cell 4
  simp only [List.getElem?_cons_zero, List.getElem?_cons_succ] at x4
  have HR := hid (class_look c)
  clear hx h1 h2 h3 h4 h5
  go_enter Try.func41, Try.ntmps41
  go_wp2_with (first
    | (go_at_call 71; refine (refLook v5 tabClasses c w HS.out).mono ?_; rw [HR.out]; rintro e w2 ⟨rfl, rfl⟩))
  go_ret
  exact ⟨rfl, rfl⟩

set_option maxHeartbeats 2000000 in
theorem refLook6 (v : Value) (l : List Mp) (c : Int) (w : World) (h : Sm w v l) (hs : ∀ m ∈ l, m.t.length ≤ 1000) :
    Calls Try.prog 86 #[v, .int .i64 c] w fun e w' => ∃ x, e = .returned x ∧ Sl .i64 w' x (fndM c l).1.t ∧ Below w.heap.size w w' := by
  have ml := h.len
  obtain ⟨a1, cap1, rfl, q1, -, h1⟩ := h
  obtain ⟨n, hn⟩ : ∃ n, n = l.length := ⟨_, rfl⟩
  obtain ⟨R, hR⟩ : ∃ R, R = (fndM c l).1.t := ⟨_, rfl⟩
  have hH : ∀ k, k < n → (∀ i, i < k → ((l.getD i noMp).f == c) = false) → ((l.getD k noMp).f == c) = true → R = (l.getD k noMp).t := fun k hk ha hh => by rw [hR, fndM_hit (by omega) ha hh]
  have hN : (∀ i, i < n → ((l.getD i noMp).f == c) = false) → R = [] := fun ha => by rw [hR, fndM_none (by rw [← hn]; exact ha)]; rfl
  have hS : ∀ k, k < n → (l.getD k noMp).t.length ≤ 1000 := fun k hk => hs _ (by
    have e : l.getD k noMp = l[k]'(by omega) := by rw [List.getD_eq_getElem?_getD, List.getElem?_eq_getElem (by omega)]; rfl
    rw [e]
    exact List.getElem_mem _)
  rw [← hR]
  have HH := hid hH
  have HN := hid hN
  have H1 := hid h1
  have HS := hid hS
  rw [← hn] at ml q1 H1 ⊢
  clear hH hN h1 hn hR hs hS
  go_enter Try.func86, Try.ntmps86
  go_wp2_with (fail)
  go_loopw [5] (fun iv wr => ∃ k : Nat, k ≤ n ∧ iv = .int .i64 k ∧ wr = w ∧ Hid (∀ i, i < k → ((l.getD i noMp).f == c) = false)) (fun iv _ => n - (intOf iv).toNat)
  case atStart => exact ⟨0, by omega, rfl, rfl, fun i hi => absurd hi (by omega)⟩
  case round =>
    obtain ⟨k, hk, rfl, rfl, hall⟩ := hrel
    by_cases hlt : k < n
    · rcases H1.out with hc | ⟨b1, o1, rfl, hb1, c1⟩
      · omega
      obtain ⟨d1, ux, d2, d3⟩ := c1 k hlt
      have hh := hid (HH.out k hlt hall.out)
      have hsm := hid (HS.out k hlt)
      have HNX := hid (show ((l.getD k noMp).f == c) = false → ∀ i, i < k + 1 → ((l.getD i noMp).f == c) = false from fun he i hi => by
        rcases Nat.lt_or_ge i k with h | h
        · exact hall.out i h
        · obtain rfl : i = k := by omega
          exact he)
      clear c1
      generalize l.getD k noMp = r at d1 d2 d3 hh HNX hsm
      obtain ⟨rf, rt⟩ := r
      simp only at d1 d2 d3 hh HNX hsm
      have HD := hid d3
      clear d3
      obtain ⟨b, hb⟩ : ∃ b, b = (rf == c) := ⟨_, rfl⟩
      rw [← hb] at hh HNX
      replace hb := hb.symm
      cases b with
      | true =>
        have hr := hid (hh.out rfl)
        go_wp2_with (go_at_call 11; refine (keepTwinInts ux rt _ HD.out (by have := hsm.out; omega)).mono ?_; rintro e w2 ⟨v2, rfl, ho2, hb2⟩; have HO2 := hid ho2; have HB2 := hid hb2; clear ho2 hb2)
        go_ret
        exact ⟨_, rfl, by rw [hr.out]; exact HO2.out.sl, HB2.out⟩
      | false =>
        have hr := hid (HNX.out rfl)
        go_wp2_with (fail)
        go_roundw
        case rel => exact ⟨k + 1, by omega, by go_num, by first | trivial | rfl, hr.out⟩
        case measure => simp [intOf]; omega
    · obtain rfl : k = n := by omega
      have hr := hid (HN.out hall.out)
      go_wp2_with (fail)
      go_ret
      exact ⟨_, rfl, by rw [hr.out]; exact sl_nil _ _, Below.refl _ _⟩

/-- no entry speaks of what is no scalar; what they tell is short -/
def offM (l : List Mp) : Bool := l.all fun m => scalarB m.f && decide (m.t.length ≤ 1000)
set_option maxRecDepth 100000 in
theorem offM_all : offM tabCompat = true ∧ offM tabFolds = true := by decide +kernel
theorem offM_map {l : List Mp} (h : offM l = true) (c : Int) : (fndM c l).1.t = mapS l c := by
  cases hb : scalarB c with
  | true => exact mapS_t hb
  | false =>
    rw [← mapS_f (l := l) hb]
    have key : ∀ l : List Mp, offM l = true → (fndM c l).1.t = [] := fun l => by
      induction l with
      | nil => intro _; rfl
      | cons m l ih =>
        intro h
        simp only [offM, List.all_cons, Bool.and_eq_true] at h
        rw [fndM]
        split
        · rename_i he
          have := eq_of_beq he
          rw [this, hb] at h
          simp at h
        · exact ih h.2
    exact key l h
theorem offM_len {l : List Mp} (h : offM l = true) : ∀ m ∈ l, m.t.length ≤ 1000 := fun m hm => by
  have := List.all_eq_true.1 h m hm
  simp only [Bool.and_eq_true, decide_eq_true_eq] at this
  exact this.2
theorem refTCompat (B : Nat) (c : Int) (w : World) (h : TabsAt B w) : Calls Try.prog 70 #[.pointer (some ⟨B, 0, none⟩), .int .i64 c] w fun e w' => ∃ x, e = .returned x ∧ Sl .i64 w' x (mapS tabCompat c) ∧ Below w.heap.size w w' := by
  obtain ⟨v1, v2, v3, v4, v5, hx, h1, h2, h3, h4, h5⟩ := h
  have HS := hid h2
  have x4 := hx.cell 1
  simp only [List.getElem?_cons_zero, List.getElem?_cons_succ] at x4
  have HR := hid (offM_map (c := c) offM_all.1)
  have HL := hid (offM_len offM_all.1)
  clear hx h1 h2 h3 h4 h5
  go_enter Try.func70, Try.ntmps70
  go_wp2_with (first
    | (go_at_call 86; refine (refLook6 v2 tabCompat c w HS.out HL.out).mono ?_; rw [HR.out]; rintro e wz ⟨x, rfl, hs, hb⟩; have HX := hid hs; have HB := hid hb; clear hs hb))
  go_ret
  exact ⟨_, rfl, HX.out, HB.out⟩
end Go.Proofs.Ytimbchkoomjhkaa
