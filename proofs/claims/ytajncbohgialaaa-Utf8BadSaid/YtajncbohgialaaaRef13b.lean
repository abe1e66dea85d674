/- Contract of the document's UTF-8: the scalar that bytes begin with. No conditions. -/
import Derived.Test.YtajncbohgialaaaRef13a
import Derived.Test.YtajncbohgialaaaKeepG
import Derived.BigQuiet
namespace Go.Proofs.Ytajncbohgialaaa
open Go.RowKit

theorem cont_app : ∀ (c : Int) (r s : List Int), cont c (r ++ s) = match cont c r with | none => none | some d => cont d s
  | c, [], s => rfl
  | c, b :: r, s => by
    simp only [List.cons_append, cont]
    split
    · rfl
    · exact cont_app _ r s
/-- one byte more -/
theorem cont_next {c d : Int} {r : List Int} {j : Nat} (hj : j < r.length) (h : cont c (r.take j) = some d) : cont c (r.take (j + 1)) = if r.getD j 0 < 128 ∨ 192 ≤ r.getD j 0 then none else some (64 * d + r.getD j 0 - 128) := by
  have e : r.getD j 0 = r[j] := by rw [List.getD_eq_getElem?_getD, List.getElem?_eq_getElem hj]; rfl
  rw [List.take_succ_eq_append_getElem hj, cont_app, h, e]
  simp only [cont]
theorem cont_stop {c : Int} {r : List Int} {j m : Nat} (hm : j ≤ m) (h : cont c (r.take j) = none) : cont c (r.take m) = none := by
  have e : r.take m = r.take j ++ (r.take m).drop j := by
    rw [show r.take j = (r.take m).take j by rw [List.take_take, Nat.min_eq_left hm]]
    exact (List.take_append_drop j _).symm
  rw [e, cont_app, h]
theorem one_few {c0 : Int} {r : List Int} (h1 : ¬ c0 < 128) (h : (lead c0).1 = 0 ∨ r.length + 1 < (lead c0).1) : u8one (c0 :: r) = (0, 0) := by rw [u8one, if_neg h1, if_pos h]
theorem one_none {c0 : Int} {r : List Int} (h1 : ¬ c0 < 128) (h : ¬ ((lead c0).1 = 0 ∨ r.length + 1 < (lead c0).1)) (hc : cont (lead c0).2 (r.take ((lead c0).1 - 1)) = none) : u8one (c0 :: r) = (0, 0) := by rw [u8one, if_neg h1, if_neg h, hc]
theorem one_some {c0 c : Int} {r : List Int} (h1 : ¬ c0 < 128) (h : ¬ ((lead c0).1 = 0 ∨ r.length + 1 < (lead c0).1)) (hc : cont (lead c0).2 (r.take ((lead c0).1 - 1)) = some c) : u8one (c0 :: r) = if scalarB c = true ∧ (u8enc c).length = (lead c0).1 then (c, (lead c0).1) else (0, 0) := by rw [u8one, if_neg h1, if_neg h, hc]

set_option maxRecDepth 100000 in
set_option maxHeartbeats 4000000 in
theorem refOne13 (v : Value) (b : List Int) (w : World) (hs : Sl .u8 w v b) (hu : U8 b) : Calls Try.prog 14 #[v] w fun e w' => e = .returned (.tuple #[.int .i64 (u8one b).1, .int .i64 (u8one b).2]) ∧ Below w.heap.size w w' := by
  have ml := hs.len
  obtain ⟨a1, cap1, rfl, q1, -, h1⟩ := hs
  cases b with
  | nil =>
    clear h1
    go_enter Try.func14, Try.ntmps14
    go_wp2
    go_ret2
    exact ⟨rfl, Below.refl _ _⟩
  | cons c0 r =>
    have hc0 := hu c0 (List.mem_cons_self ..)
    have hur : U8 r := fun x hx => hu x (List.mem_cons_of_mem _ hx)
    rcases h1 with hcc | ⟨b1, o1, rfl, hb1, hc⟩
    · simp at q1
      omega
    have d0 := hc 0 (by simp)
    simp only [List.getD_cons_zero, Nat.add_zero] at d0
    obtain ⟨n, hn⟩ : ∃ n, n = (c0 :: r).length := ⟨_, rfl⟩
    have HN1 := hid (show n = r.length + 1 by rw [hn]; simp)
    have HC := hid (fun j (hj : j < r.length) => (show w.cell? ⟨b1, o1 + (j + 1), none⟩ = some (.int .u8 (r.getD j 0)) from by
      have := hc (j + 1) (by simp; omega)
      simpa using this))
    have HU := hid (fun j (hj : j < r.length) => U8.get hur j)
    have hn0 : 0 < n := by rw [hn]; simp
    rw [← hn] at ml q1 ⊢
    clear hc hb1 hn hu hur
    by_cases k1 : c0 < 128
    · have HR := hid (show u8one (c0 :: r) = (c0, 1) by rw [u8one, if_pos k1])
      go_enter Try.func14, Try.ntmps14
      go_wp2
      go_quiet (fail)
      go_wp2
      go_ret2
      exact ⟨by rw [HR.out]; rfl, below_drewN _⟩
    by_cases k2 : 192 ≤ c0 ∧ c0 < 224
    · have l : lead c0 = (2, c0 - 192) := by unfold lead; rw [if_pos k2]
      have g1 : 192 ≤ c0 := k2.1
      have g2 : c0 < 224 := k2.2
      clear k2
      obtain ⟨x0, hx0⟩ : ∃ x0, x0 = c0 - 192 := ⟨_, rfl⟩
      have hx1 : 0 ≤ x0 ∧ x0 < 32 := by omega
      have ex0 : c0 - 192 = x0 := hx0.symm
      clear hx0
      by_cases hN : n < 2
      · have HR := hid (one_few (r := r) k1 (.inr (by rw [l]; have := HN1.out; simp only; omega)))
        go_enter Try.func14, Try.ntmps14
        go_wp2
        go_quiet (fail)
        go_wp2
        go_ret2
        exact ⟨by rw [HR.out]; rfl, below_drewN _⟩
      · have HL := hid (show ¬ ((lead c0).1 = 0 ∨ r.length + 1 < (lead c0).1) by rw [l]; have := HN1.out; simp only; omega)
        have HNone := hid (fun j (hj : j ≤ 2 - 1) (h : cont x0 (r.take j) = none) => one_none (r := r) k1 HL.out (by rw [l, ex0]; exact cont_stop hj h))
        have HSome := hid (fun c (h : cont x0 (r.take (2 - 1)) = some c) => (show u8one (c0 :: r) = if scalarB c = true ∧ (u8enc c).length = 2 then (c, 2) else (0, 0) from by
          have := one_some (r := r) k1 HL.out (c := c) (by rw [l, ex0]; exact h)
          rw [l] at this
          exact this))
        clear l
        go_enter Try.func14, Try.ntmps14
        go_wp2
        go_quiet (fail)
        go_wp2
        go_loopw [5, 6] (fun cv iv wr => ∃ (i j : Nat) (c : Int), i = j + 1 ∧ i ≤ 2 ∧ iv = .int .i64 i ∧ cv = .int .i64 c ∧ wr = w.drewN nq ∧ Hid (cont x0 (r.take j) = some c) ∧ 0 ≤ c ∧ Hid ((j = 0 ∧ c < 32) ∨ (j = 1 ∧ c < 2048) ∨ (j = 2 ∧ c < 131072) ∨ (j = 3 ∧ c < 8388608))) (fun _ iv _ => 2 - (intOf iv).toNat)
        case atStart => exact ⟨1, 0, x0, rfl, by omega, rfl, rfl, rfl, by show cont x0 (r.take 0) = some x0; rfl, hx1.1, .inl ⟨rfl, hx1.2⟩⟩
        case round =>
          obtain ⟨i, j, c, hij, hiN, rfl, rfl, rfl, hcont, hc1, hbnd⟩ := hrel
          by_cases hlt : i < 2
          · have hjr : j < r.length := by have := HN1.out; omega
            have d1 : w.cell? ⟨b1, o1 + i, none⟩ = some (.int .u8 (r.getD j 0)) := by rw [hij]; exact HC.out j hjr
            have hin : i < n := by omega
            have hd := HU.out j hjr
            have HNX := hid (cont_next hjr hcont.out)
            generalize r.getD j 0 = d at d1 hd HNX
            by_cases t1 : d < 128
            · have HR := hid (HNone.out (j + 1) (by omega) (by rw [HNX.out, if_pos (.inl t1)]))
              clear hij
              go_wp2
              go_ret2
              exact ⟨by rw [HR.out]; rfl, below_drewN _⟩
            by_cases t2 : 192 ≤ d
            · have HR := hid (HNone.out (j + 1) (by omega) (by rw [HNX.out, if_pos (.inr t2)]))
              clear hij
              go_wp2
              go_ret2
              exact ⟨by rw [HR.out]; rfl, below_drewN _⟩
            · have HS := hid (show cont x0 (r.take (j + 1)) = some (64 * c + d - 128) by rw [HNX.out, if_neg (by omega)])
              have HB := hid hbnd.out
              have cub : c < 131072 := by have := hbnd.out; omega
              have HIJ := hid hij
              clear hij
              go_wp2
              go_roundw
              case rel => exact ⟨i + 1, j + 1, 64 * c + d - 128, by have := HIJ.out; omega, by omega, by go_num, rfl, by trivial, HS.out, by omega, by show _ ∨ _; have := HB.out; have := HIJ.out; omega⟩
              case measure => simp [intOf]; omega
          · obtain rfl : j = 2 - 1 := by omega
            obtain rfl : i = 2 := by omega
            have HR := hid (HSome.out c hcont.out)
            clear HSome HNone hbnd hij
            cases hsc : scalarB c with
            | false =>
              have HSC := hid hsc
              have HRR := hid (show u8one (c0 :: r) = (0, 0) by rw [HR.out, if_neg (by rw [hsc]; simp)])
              clear hsc
              go_wp2_with (go_at_call 19; refine (refScalar6 c _).mono ?_; rw [HSC.out]; rintro e w1 ⟨rfl, rfl⟩)
              go_ret2
              exact ⟨by rw [HRR.out]; rfl, below_drewN _⟩
            | true =>
              have HSC := hid hsc
              obtain ⟨m, hm⟩ : ∃ m, m = (u8enc c).length := ⟨_, rfl⟩
              have HM := hid hm
              by_cases hmn : m = 2
              · have HRR := hid (show u8one (c0 :: r) = (c, 2) by rw [HR.out, if_pos ⟨hsc, by rw [← hm]; exact hmn⟩])
                clear hsc hm
                go_wp2_with (first
                  | (go_at_call 19; refine (refScalar6 c _).mono ?_; rw [HSC.out]; rintro e w1 ⟨rfl, rfl⟩)
                  | (go_at_call 24; refine (refUtf8 c _ HSC.out).mono ?_; rintro e w1 ⟨v1, rfl, ho1, hb1⟩; have HB1 := hid (Below.trans (show Below w.heap.size w (w.drewN nq) from below_drewN nq) (hb1.mono (Nat.le_refl _))); obtain ⟨a2, c2, hv2⟩ := ho1.sl.form; rw [← HM.out, hmn] at hv2; subst hv2; clear ho1 hb1))
                go_ret2
                exact ⟨by rw [HRR.out]; rfl, HB1.out⟩
              · have HRR := hid (show u8one (c0 :: r) = (0, 0) by rw [HR.out, if_neg (by rw [← hm]; exact fun h => hmn h.2)])
                clear hsc hm
                go_wp2_with (first
                  | (go_at_call 19; refine (refScalar6 c _).mono ?_; rw [HSC.out]; rintro e w1 ⟨rfl, rfl⟩)
                  | (go_at_call 24; refine (refUtf8 c _ HSC.out).mono ?_; rintro e w1 ⟨v1, rfl, ho1, hb1⟩; have HB1 := hid (Below.trans (show Below w.heap.size w (w.drewN nq) from below_drewN nq) (hb1.mono (Nat.le_refl _))); obtain ⟨a2, c2, hv2⟩ := ho1.sl.form; rw [← HM.out] at hv2; subst hv2; clear ho1 hb1))
                go_ret2
                exact ⟨by rw [HRR.out]; rfl, HB1.out⟩
    by_cases k3 : 224 ≤ c0 ∧ c0 < 240
    · have l : lead c0 = (3, c0 - 224) := by unfold lead; rw [if_neg k2, if_pos k3]
      have g1 : 224 ≤ c0 := k3.1
      have g2 : c0 < 240 := k3.2
      clear k3
      obtain ⟨x0, hx0⟩ : ∃ x0, x0 = c0 - 224 := ⟨_, rfl⟩
      have hx1 : 0 ≤ x0 ∧ x0 < 32 := by omega
      have ex0 : c0 - 224 = x0 := hx0.symm
      clear hx0
      by_cases hN : n < 3
      · have HR := hid (one_few (r := r) k1 (.inr (by rw [l]; have := HN1.out; simp only; omega)))
        go_enter Try.func14, Try.ntmps14
        go_wp2
        go_quiet (fail)
        go_wp2
        go_ret2
        exact ⟨by rw [HR.out]; rfl, below_drewN _⟩
      · have HL := hid (show ¬ ((lead c0).1 = 0 ∨ r.length + 1 < (lead c0).1) by rw [l]; have := HN1.out; simp only; omega)
        have HNone := hid (fun j (hj : j ≤ 3 - 1) (h : cont x0 (r.take j) = none) => one_none (r := r) k1 HL.out (by rw [l, ex0]; exact cont_stop hj h))
        have HSome := hid (fun c (h : cont x0 (r.take (3 - 1)) = some c) => (show u8one (c0 :: r) = if scalarB c = true ∧ (u8enc c).length = 3 then (c, 3) else (0, 0) from by
          have := one_some (r := r) k1 HL.out (c := c) (by rw [l, ex0]; exact h)
          rw [l] at this
          exact this))
        clear l
        go_enter Try.func14, Try.ntmps14
        go_wp2
        go_quiet (fail)
        go_wp2
        go_loopw [5, 6] (fun cv iv wr => ∃ (i j : Nat) (c : Int), i = j + 1 ∧ i ≤ 3 ∧ iv = .int .i64 i ∧ cv = .int .i64 c ∧ wr = w.drewN nq ∧ Hid (cont x0 (r.take j) = some c) ∧ 0 ≤ c ∧ Hid ((j = 0 ∧ c < 32) ∨ (j = 1 ∧ c < 2048) ∨ (j = 2 ∧ c < 131072) ∨ (j = 3 ∧ c < 8388608))) (fun _ iv _ => 3 - (intOf iv).toNat)
        case atStart => exact ⟨1, 0, x0, rfl, by omega, rfl, rfl, rfl, by show cont x0 (r.take 0) = some x0; rfl, hx1.1, .inl ⟨rfl, hx1.2⟩⟩
        case round =>
          obtain ⟨i, j, c, hij, hiN, rfl, rfl, rfl, hcont, hc1, hbnd⟩ := hrel
          by_cases hlt : i < 3
          · have hjr : j < r.length := by have := HN1.out; omega
            have d1 : w.cell? ⟨b1, o1 + i, none⟩ = some (.int .u8 (r.getD j 0)) := by rw [hij]; exact HC.out j hjr
            have hin : i < n := by omega
            have hd := HU.out j hjr
            have HNX := hid (cont_next hjr hcont.out)
            generalize r.getD j 0 = d at d1 hd HNX
            by_cases t1 : d < 128
            · have HR := hid (HNone.out (j + 1) (by omega) (by rw [HNX.out, if_pos (.inl t1)]))
              clear hij
              go_wp2
              go_ret2
              exact ⟨by rw [HR.out]; rfl, below_drewN _⟩
            by_cases t2 : 192 ≤ d
            · have HR := hid (HNone.out (j + 1) (by omega) (by rw [HNX.out, if_pos (.inr t2)]))
              clear hij
              go_wp2
              go_ret2
              exact ⟨by rw [HR.out]; rfl, below_drewN _⟩
            · have HS := hid (show cont x0 (r.take (j + 1)) = some (64 * c + d - 128) by rw [HNX.out, if_neg (by omega)])
              have HB := hid hbnd.out
              have cub : c < 131072 := by have := hbnd.out; omega
              have HIJ := hid hij
              clear hij
              go_wp2
              go_roundw
              case rel => exact ⟨i + 1, j + 1, 64 * c + d - 128, by have := HIJ.out; omega, by omega, by go_num, rfl, by trivial, HS.out, by omega, by show _ ∨ _; have := HB.out; have := HIJ.out; omega⟩
              case measure => simp [intOf]; omega
          · obtain rfl : j = 3 - 1 := by omega
            obtain rfl : i = 3 := by omega
            have HR := hid (HSome.out c hcont.out)
            clear HSome HNone hbnd hij
            cases hsc : scalarB c with
            | false =>
              have HSC := hid hsc
              have HRR := hid (show u8one (c0 :: r) = (0, 0) by rw [HR.out, if_neg (by rw [hsc]; simp)])
              clear hsc
              go_wp2_with (go_at_call 19; refine (refScalar6 c _).mono ?_; rw [HSC.out]; rintro e w1 ⟨rfl, rfl⟩)
              go_ret2
              exact ⟨by rw [HRR.out]; rfl, below_drewN _⟩
            | true =>
              have HSC := hid hsc
              obtain ⟨m, hm⟩ : ∃ m, m = (u8enc c).length := ⟨_, rfl⟩
              have HM := hid hm
              by_cases hmn : m = 3
              · have HRR := hid (show u8one (c0 :: r) = (c, 3) by rw [HR.out, if_pos ⟨hsc, by rw [← hm]; exact hmn⟩])
                clear hsc hm
                go_wp2_with (first
                  | (go_at_call 19; refine (refScalar6 c _).mono ?_; rw [HSC.out]; rintro e w1 ⟨rfl, rfl⟩)
                  | (go_at_call 24; refine (refUtf8 c _ HSC.out).mono ?_; rintro e w1 ⟨v1, rfl, ho1, hb1⟩; have HB1 := hid (Below.trans (show Below w.heap.size w (w.drewN nq) from below_drewN nq) (hb1.mono (Nat.le_refl _))); obtain ⟨a2, c2, hv2⟩ := ho1.sl.form; rw [← HM.out, hmn] at hv2; subst hv2; clear ho1 hb1))
                go_ret2
                exact ⟨by rw [HRR.out]; rfl, HB1.out⟩
              · have HRR := hid (show u8one (c0 :: r) = (0, 0) by rw [HR.out, if_neg (by rw [← hm]; exact fun h => hmn h.2)])
                clear hsc hm
                go_wp2_with (first
                  | (go_at_call 19; refine (refScalar6 c _).mono ?_; rw [HSC.out]; rintro e w1 ⟨rfl, rfl⟩)
                  | (go_at_call 24; refine (refUtf8 c _ HSC.out).mono ?_; rintro e w1 ⟨v1, rfl, ho1, hb1⟩; have HB1 := hid (Below.trans (show Below w.heap.size w (w.drewN nq) from below_drewN nq) (hb1.mono (Nat.le_refl _))); obtain ⟨a2, c2, hv2⟩ := ho1.sl.form; rw [← HM.out] at hv2; subst hv2; clear ho1 hb1))
                go_ret2
                exact ⟨by rw [HRR.out]; rfl, HB1.out⟩
    by_cases k4 : 240 ≤ c0 ∧ c0 < 248
    · have l : lead c0 = (4, c0 - 240) := by unfold lead; rw [if_neg k2, if_neg k3, if_pos k4]
      have g1 : 240 ≤ c0 := k4.1
      have g2 : c0 < 248 := k4.2
      clear k4
      obtain ⟨x0, hx0⟩ : ∃ x0, x0 = c0 - 240 := ⟨_, rfl⟩
      have hx1 : 0 ≤ x0 ∧ x0 < 32 := by omega
      have ex0 : c0 - 240 = x0 := hx0.symm
      clear hx0
      by_cases hN : n < 4
      · have HR := hid (one_few (r := r) k1 (.inr (by rw [l]; have := HN1.out; simp only; omega)))
        go_enter Try.func14, Try.ntmps14
        go_wp2
        go_quiet (fail)
        go_wp2
        go_ret2
        exact ⟨by rw [HR.out]; rfl, below_drewN _⟩
      · have HL := hid (show ¬ ((lead c0).1 = 0 ∨ r.length + 1 < (lead c0).1) by rw [l]; have := HN1.out; simp only; omega)
        have HNone := hid (fun j (hj : j ≤ 4 - 1) (h : cont x0 (r.take j) = none) => one_none (r := r) k1 HL.out (by rw [l, ex0]; exact cont_stop hj h))
        have HSome := hid (fun c (h : cont x0 (r.take (4 - 1)) = some c) => (show u8one (c0 :: r) = if scalarB c = true ∧ (u8enc c).length = 4 then (c, 4) else (0, 0) from by
          have := one_some (r := r) k1 HL.out (c := c) (by rw [l, ex0]; exact h)
          rw [l] at this
          exact this))
        clear l
        go_enter Try.func14, Try.ntmps14
        go_wp2
        go_quiet (fail)
        go_wp2
        go_loopw [5, 6] (fun cv iv wr => ∃ (i j : Nat) (c : Int), i = j + 1 ∧ i ≤ 4 ∧ iv = .int .i64 i ∧ cv = .int .i64 c ∧ wr = w.drewN nq ∧ Hid (cont x0 (r.take j) = some c) ∧ 0 ≤ c ∧ Hid ((j = 0 ∧ c < 32) ∨ (j = 1 ∧ c < 2048) ∨ (j = 2 ∧ c < 131072) ∨ (j = 3 ∧ c < 8388608))) (fun _ iv _ => 4 - (intOf iv).toNat)
        case atStart => exact ⟨1, 0, x0, rfl, by omega, rfl, rfl, rfl, by show cont x0 (r.take 0) = some x0; rfl, hx1.1, .inl ⟨rfl, hx1.2⟩⟩
        case round =>
          obtain ⟨i, j, c, hij, hiN, rfl, rfl, rfl, hcont, hc1, hbnd⟩ := hrel
          by_cases hlt : i < 4
          · have hjr : j < r.length := by have := HN1.out; omega
            have d1 : w.cell? ⟨b1, o1 + i, none⟩ = some (.int .u8 (r.getD j 0)) := by rw [hij]; exact HC.out j hjr
            have hin : i < n := by omega
            have hd := HU.out j hjr
            have HNX := hid (cont_next hjr hcont.out)
            generalize r.getD j 0 = d at d1 hd HNX
            by_cases t1 : d < 128
            · have HR := hid (HNone.out (j + 1) (by omega) (by rw [HNX.out, if_pos (.inl t1)]))
              clear hij
              go_wp2
              go_ret2
              exact ⟨by rw [HR.out]; rfl, below_drewN _⟩
            by_cases t2 : 192 ≤ d
            · have HR := hid (HNone.out (j + 1) (by omega) (by rw [HNX.out, if_pos (.inr t2)]))
              clear hij
              go_wp2
              go_ret2
              exact ⟨by rw [HR.out]; rfl, below_drewN _⟩
            · have HS := hid (show cont x0 (r.take (j + 1)) = some (64 * c + d - 128) by rw [HNX.out, if_neg (by omega)])
              have HB := hid hbnd.out
              have cub : c < 131072 := by have := hbnd.out; omega
              have HIJ := hid hij
              clear hij
              go_wp2
              go_roundw
              case rel => exact ⟨i + 1, j + 1, 64 * c + d - 128, by have := HIJ.out; omega, by omega, by go_num, rfl, by trivial, HS.out, by omega, by show _ ∨ _; have := HB.out; have := HIJ.out; omega⟩
              case measure => simp [intOf]; omega
          · obtain rfl : j = 4 - 1 := by omega
            obtain rfl : i = 4 := by omega
            have HR := hid (HSome.out c hcont.out)
            clear HSome HNone hbnd hij
            cases hsc : scalarB c with
            | false =>
              have HSC := hid hsc
              have HRR := hid (show u8one (c0 :: r) = (0, 0) by rw [HR.out, if_neg (by rw [hsc]; simp)])
              clear hsc
              go_wp2_with (go_at_call 19; refine (refScalar6 c _).mono ?_; rw [HSC.out]; rintro e w1 ⟨rfl, rfl⟩)
              go_ret2
              exact ⟨by rw [HRR.out]; rfl, below_drewN _⟩
            | true =>
              have HSC := hid hsc
              obtain ⟨m, hm⟩ : ∃ m, m = (u8enc c).length := ⟨_, rfl⟩
              have HM := hid hm
              by_cases hmn : m = 4
              · have HRR := hid (show u8one (c0 :: r) = (c, 4) by rw [HR.out, if_pos ⟨hsc, by rw [← hm]; exact hmn⟩])
                clear hsc hm
                go_wp2_with (first
                  | (go_at_call 19; refine (refScalar6 c _).mono ?_; rw [HSC.out]; rintro e w1 ⟨rfl, rfl⟩)
                  | (go_at_call 24; refine (refUtf8 c _ HSC.out).mono ?_; rintro e w1 ⟨v1, rfl, ho1, hb1⟩; have HB1 := hid (Below.trans (show Below w.heap.size w (w.drewN nq) from below_drewN nq) (hb1.mono (Nat.le_refl _))); obtain ⟨a2, c2, hv2⟩ := ho1.sl.form; rw [← HM.out, hmn] at hv2; subst hv2; clear ho1 hb1))
                go_ret2
                exact ⟨by rw [HRR.out]; rfl, HB1.out⟩
              · have HRR := hid (show u8one (c0 :: r) = (0, 0) by rw [HR.out, if_neg (by rw [← hm]; exact fun h => hmn h.2)])
                clear hsc hm
                go_wp2_with (first
                  | (go_at_call 19; refine (refScalar6 c _).mono ?_; rw [HSC.out]; rintro e w1 ⟨rfl, rfl⟩)
                  | (go_at_call 24; refine (refUtf8 c _ HSC.out).mono ?_; rintro e w1 ⟨v1, rfl, ho1, hb1⟩; have HB1 := hid (Below.trans (show Below w.heap.size w (w.drewN nq) from below_drewN nq) (hb1.mono (Nat.le_refl _))); obtain ⟨a2, c2, hv2⟩ := ho1.sl.form; rw [← HM.out] at hv2; subst hv2; clear ho1 hb1))
                go_ret2
                exact ⟨by rw [HRR.out]; rfl, HB1.out⟩
    · have HR := hid (one_few (r := r) k1 (.inl (show (lead c0).1 = 0 by unfold lead; rw [if_neg k2, if_neg k3, if_neg k4])))
      go_enter Try.func14, Try.ntmps14
      by_cases g1 : 192 ≤ c0
      · have g2 : 224 ≤ c0 := by omega
        have g3 : 240 ≤ c0 := by omega
        have g4 : 248 ≤ c0 := by omega
        clear k2 k3 k4
        go_wp2
        go_quiet (fail)
        go_wp2
        go_ret2
        exact ⟨by rw [HR.out]; rfl, below_drewN _⟩
      · have g2 : ¬ 224 ≤ c0 := by omega
        have g3 : ¬ 240 ≤ c0 := by omega
        clear k2 k3 k4
        go_wp2
        go_quiet (fail)
        go_wp2
        go_ret2
        exact ⟨by rw [HR.out]; rfl, below_drewN _⟩
end Go.Proofs.Ytajncbohgialaaa
