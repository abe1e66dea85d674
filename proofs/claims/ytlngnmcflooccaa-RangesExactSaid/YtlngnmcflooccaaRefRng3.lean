/- Contract of the document's Flat: whether a table is right. -/
import Derived.Test.YtlngnmcflooccaaSg
import Derived.Test.YtlngnmcflooccaaRefRng2
import Derived.BigQuiet
namespace Go.Proofs.Ytlngnmcflooccaa
open Go.RowKit

theorem okL_iff : ∀ (l : List Rg) (p : Int), okL p l ↔ ∀ i, i < l.length → okR (if i = 0 then p else (l.getD (i - 1) noRg).t) (l.getD i noRg)
  | [], p => by simp [okL]
  | r :: l, p => by
    unfold okL
    rw [okL_iff l r.t]
    constructor
    · rintro ⟨h0, h⟩ i hi
      match i, hi with
      | 0, _ => simpa using h0
      | 1, hi => simpa using h 0 (by simpa using hi)
      | i + 2, hi =>
        have := h (i + 1) (by simp only [List.length_cons] at hi; omega)
        simpa using this
    · intro h
      refine ⟨by simpa using h 0 (by simp), fun i hi => ?_⟩
      have := h (i + 1) (by simpa using hi)
      match i with
      | 0 => simpa using this
      | i + 1 => simpa using this

set_option maxHeartbeats 4000000 in
set_option maxRecDepth 100000 in
theorem refFlat (v : Value) (l : List Rg) (w : World) (h : Sg w v l) :
    Calls Try.prog 15 #[v] w fun e w' => e = .returned (.bool (flatS l)) ∧ Below w.heap.size w w' := by
  have ml := h.len
  obtain ⟨a1, cap1, rfl, q1, -, h1⟩ := h
  obtain ⟨n, hn⟩ : ∃ n, n = l.length := ⟨_, rfl⟩
  have hT : n ≤ 2000 → (∀ i, i < n → okR (if i = 0 then -1 else (l.getD (i - 1) noRg).t) (l.getD i noRg)) → flatS l = true := fun h2 ha => by
    unfold flatS
    rw [decide_eq_true ⟨by omega, (okL_iff l (-1)).2 (by rw [← hn]; exact ha)⟩]
  have hF : ∀ i, i < n → ¬ okR (if i = 0 then -1 else (l.getD (i - 1) noRg).t) (l.getD i noRg) → flatS l = false := fun i hi hh => by
    unfold flatS
    exact decide_eq_false fun hx => hh ((okL_iff l (-1)).1 hx.2 i (by omega))
  have hB : 2000 < n → flatS l = false := fun hh => by
    unfold flatS
    exact decide_eq_false fun hx => by omega
  have HT := hid hT
  have HF := hid hF
  have HB := hid hB
  have H1 := hid h1
  rw [← hn] at ml q1 H1 ⊢
  clear hT hF hB h1 hn
  by_cases hbig : 2000 < n
  · have hr := hid (HB.out hbig)
    go_enter Try.func15, Try.ntmps15
    go_wp2
    go_ret
    exact ⟨by rw [hr.out]; rfl, Below.refl _ _⟩
  · have hn2 : n ≤ 2000 := by omega
    clear HB hbig
    go_enter Try.func15, Try.ntmps15
    go_wp2
    go_loopw [3] (fun iv wr => ∃ k : Nat, k ≤ n ∧ iv = .int .i64 k ∧ Hid (Below w.heap.size w wr) ∧ Hid (∀ i, i < k → okR (if i = 0 then -1 else (l.getD (i - 1) noRg).t) (l.getD i noRg))) (fun iv _ => n - (intOf iv).toNat)
    case atStart => exact ⟨0, by omega, rfl, Below.refl _ _, fun i hi => absurd hi (by omega)⟩
    case round =>
      obtain ⟨k, hk, rfl, hbel, hall⟩ := hrel
      by_cases hlt : k < n
      · rcases H1.out with hc | ⟨b1, o1, rfl, hb1, c1⟩
        · omega
        have hb1' := hb1 (by omega)
        obtain ⟨d1, d2, d3⟩ := c1 k hlt
        have d1 := (hbel.out.cell (p := ⟨b1, o1 + k * 3, none⟩) hb1').trans d1
        have d2 := (hbel.out.cell (p := ⟨b1, o1 + k * 3 + 1, none⟩) hb1').trans d2
        have d3 := (hbel.out.cell (p := ⟨b1, o1 + k * 3 + 2, none⟩) hb1').trans d3
        generalize hrr : l.getD k noRg = r at d1 d2 d3
        have HRR := hid hrr
        clear hrr
        obtain ⟨rf, rt, rv⟩ := r
        simp only at d1 d2 d3
        go_wp2_with (fail)
        have HBW : Hid (Below w.heap.size w (wr.alloc (.cells #[.int .i64 rf, .int .i64 rt, .int .i64 rv] 43))) := hid (hbel.out.alloc hbel.out.size _)
        have hbx := Box.made wr 43 [.int .i64 rf, .int .i64 rt, .int .i64 rv]
        have x0 := hbx.cell 0
        have x1 := hbx.cell 1
        have x2 := hbx.cell 2
        have hcc : ∀ i, i < n → (wr.alloc (.cells #[.int .i64 rf, .int .i64 rt, .int .i64 rv] 43)).cell? ⟨b1, o1 + i * 3 + 1, none⟩ = some (.int .i64 (l.getD i noRg).t) := fun i hi => (HBW.out.cell (p := ⟨b1, o1 + i * 3 + 1, none⟩) hb1').trans (c1 i hi).2.1
        simp only [List.getElem?_cons_zero, List.getElem?_cons_succ] at x0 x1 x2
        have HCC := hid hcc
        clear hcc hbx d1 d2 d3 c1
        generalize wr.heap.size = G at x0 x1 x2 ⊢
        generalize wr.alloc (.cells #[.int .i64 rf, .int .i64 rt, .int .i64 rv] 43) = W at HBW x0 x1 x2 HCC ⊢
        have QA0 := fun m => refIn5 rf 0 1114111 (W.drewN m)
        have QB0 := fun m => refIn5 rt rf 1114111 (W.drewN m)
        have QC0 := fun m => refIn5 rv 1 65535 (W.drewN m)
        have QA : Hid (∀ m, Calls Try.prog 27 #[.int .i64 rf, .int .i64 0, .int .i64 1114111] (W.drewN m) fun e w' => e = .returned (.bool (decide (0 ≤ rf ∧ rf ≤ 1114111))) ∧ ∃ k, w' = W.drewN k) := hid fun m => quiet_same0 (QA0 m)
        have QB : Hid (∀ m, Calls Try.prog 27 #[.int .i64 rt, .int .i64 rf, .int .i64 1114111] (W.drewN m) fun e w' => e = .returned (.bool (decide (rf ≤ rt ∧ rt ≤ 1114111))) ∧ ∃ k, w' = W.drewN k) := hid fun m => quiet_same0 (QB0 m)
        have QC : Hid (∀ m, Calls Try.prog 27 #[.int .i64 rv, .int .i64 1, .int .i64 65535] (W.drewN m) fun e w' => e = .returned (.bool (decide (1 ≤ rv ∧ rv ≤ 65535))) ∧ ∃ k, w' = W.drewN k) := hid fun m => quiet_same0 (QC0 m)
        clear QA0 QB0 QC0
        by_cases hA : 0 ≤ rf ∧ rf ≤ 1114111
        · rw [decide_eq_true hA] at QA
          by_cases hB : rf ≤ rt ∧ rt ≤ 1114111
          · rw [decide_eq_true hB] at QB
            by_cases hC : 1 ≤ rv ∧ rv ≤ 65535
            · rw [decide_eq_true hC] at QC
              have HABC := hid (show 0 ≤ rf ∧ rf ≤ 1114111 ∧ rf ≤ rt ∧ rt ≤ 1114111 ∧ 1 ≤ rv ∧ rv ≤ 65535 by omega)
              have hgo : ∀ p : Int, p < rf → p = (if k = 0 then -1 else (l.getD (k - 1) noRg).t) → ∀ i, i < k + 1 → okR (if i = 0 then -1 else (l.getD (i - 1) noRg).t) (l.getD i noRg) := fun p hp he i hi => by
                rcases Nat.lt_or_ge i k with h | h
                · exact hall.out i h
                · obtain rfl : i = k := by omega
                  rw [HRR.out, ← he]
                  have := HABC.out
                  show 0 ≤ rf ∧ rf ≤ 1114111 ∧ rf ≤ rt ∧ rt ≤ 1114111 ∧ 1 ≤ rv ∧ rv ≤ 65535 ∧ p < rf
                  omega
              have HGO := hid hgo
              clear hgo hA hB hC
              rcases Nat.lt_or_ge 0 k with h0 | h0
              · obtain ⟨k1, hk1⟩ : ∃ k1, k1 = k - 1 := ⟨_, rfl⟩
                have w6 : (k : Int) - 1 = (k1 : Int) := by omega
                have w7 : IntKind.i64.wrap (k1 : Int) = (k1 : Int) := by rw [IntKind.wrap_i64]; omega
                have hk1n : k1 < n := by omega
                have y1 := HCC.out k1 hk1n
                have hpr : Hid ((l.getD k1 noRg).t = (if k = 0 then -1 else (l.getD (k - 1) noRg).t)) := hid (by rw [if_neg (by omega), hk1])
                generalize (l.getD k1 noRg).t = pt at y1 hpr
                clear hk1
                by_cases hlast : pt < rf
                · have hr := hid (HGO.out pt hlast hpr.out)
                  have hd : decide (rf ≤ pt) = false := decide_eq_false (by omega)
                  go_quiet (first | (go_at_call 27; with_reducible exact QA.out _) | (go_at_call 27; with_reducible exact QB.out _) | (go_at_call 27; with_reducible exact QC.out _))
                  go_wp2
                  go_roundw
                  case rel => exact ⟨k + 1, by omega, by go_num, below_drewN' HBW.out _, hr.out⟩
                  case measure => simp [intOf]; omega
                · have hr := hid (HF.out k hlt (by rw [HRR.out]; intro hx; rw [← hpr.out] at hx; unfold okR at hx; dsimp only at hx; omega))
                  have hd : decide (rf ≤ pt) = true := decide_eq_true (by omega)
                  go_quiet (first | (go_at_call 27; with_reducible exact QA.out _) | (go_at_call 27; with_reducible exact QB.out _) | (go_at_call 27; with_reducible exact QC.out _))
                  go_wp2
                  go_ret
                  exact ⟨by rw [hr.out]; rfl, below_drewN' HBW.out _⟩
              · have hkg : decide (0 < k) = false := decide_eq_false (by omega)
                have hr := hid (HGO.out (-1) (by have := HABC.out; omega) (by rw [if_pos (by omega)]))
                clear h0
                go_quiet (first | (go_at_call 27; with_reducible exact QA.out _) | (go_at_call 27; with_reducible exact QB.out _) | (go_at_call 27; with_reducible exact QC.out _))
                go_wp2
                go_roundw
                case rel => exact ⟨k + 1, by omega, by go_num, below_drewN' HBW.out _, hr.out⟩
                case measure => simp [intOf]; omega
            · rw [decide_eq_false hC] at QC
              have hr := hid (HF.out k hlt (by rw [HRR.out]; intro hx; unfold okR maxS at hx; simp only at hx; omega))
              clear hA hB hC
              go_quiet (first | (go_at_call 27; with_reducible exact QA.out _) | (go_at_call 27; with_reducible exact QB.out _) | (go_at_call 27; with_reducible exact QC.out _))
              go_wp2
              go_ret
              exact ⟨by rw [hr.out]; rfl, below_drewN' HBW.out _⟩
          · rw [decide_eq_false hB] at QB
            have hr := hid (HF.out k hlt (by rw [HRR.out]; intro hx; unfold okR maxS at hx; simp only at hx; omega))
            clear hA hB
            go_quiet (first | (go_at_call 27; with_reducible exact QA.out _) | (go_at_call 27; with_reducible exact QB.out _) | (go_at_call 27; with_reducible exact QC.out _))
            go_wp2
            go_ret
            exact ⟨by rw [hr.out]; rfl, below_drewN' HBW.out _⟩
        · rw [decide_eq_false hA] at QA
          have hr := hid (HF.out k hlt (by rw [HRR.out]; intro hx; unfold okR maxS at hx; simp only at hx; omega))
          clear hA
          go_quiet (first | (go_at_call 27; with_reducible exact QA.out _) | (go_at_call 27; with_reducible exact QB.out _) | (go_at_call 27; with_reducible exact QC.out _))
          go_wp2
          go_ret
          exact ⟨by rw [hr.out]; rfl, below_drewN' HBW.out _⟩
      · obtain rfl : k = n := by omega
        have hr := hid (HT.out hn2 hall.out)
        go_wp2
        go_ret
        exact ⟨by rw [hr.out]; rfl, hbel.out⟩
end Go.Proofs.Ytlngnmcflooccaa
