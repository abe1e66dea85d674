/- Contracts of package ranges' Flat and Check: the value of the first range that has a number; whether a table is right. -/
import Derived.Test.YtlngnmcflooccaaSg
import Derived.Test.YtlngnmcflooccaaKeepG
import Derived.Test.YtlngnmcflooccaaRefRng3
import Derived.Test.YtlngnmcflooccaaRefRng1
namespace Go.Proofs.Ytlngnmcflooccaa
open Go.RowKit

set_option maxHeartbeats 1000000 in
theorem rngFlat (v : Value) (l : List Rg) (c : Int) (w : World) (h : Sg w v l) :
    Calls Try.prog 9 #[v, .int .i64 c] w fun e w' => e = .returned (.int .i64 (lookS l c)) ∧ Below w.heap.size w w' := by
  have ml := h.len
  obtain ⟨a1, cap1, rfl, q1, -, h1⟩ := h
  obtain ⟨n, hn⟩ : ∃ n, n = l.length := ⟨_, rfl⟩
  have hH : ∀ k, k < n → (∀ i, i < k → ¬ ((l.getD i noRg).f ≤ c ∧ c ≤ (l.getD i noRg).t)) → ((l.getD k noRg).f ≤ c ∧ c ≤ (l.getD k noRg).t) → lookS l c = (l.getD k noRg).v := fun k hk ha hh => lookS_hit (by omega) ha hh
  have hN : (∀ i, i < n → ¬ ((l.getD i noRg).f ≤ c ∧ c ≤ (l.getD i noRg).t)) → lookS l c = 0 := fun ha => lookS_none (by rw [← hn]; exact ha)
  have HH := hid hH
  have HN := hid hN
  have H1 := hid h1
  rw [← hn] at ml q1 H1 ⊢
  clear hH hN h1 hn
  go_enter Try.func9, Try.ntmps9
  go_wp2
  go_loopw [9] (fun iv wr => ∃ k : Nat, k ≤ n ∧ iv = .int .i64 k ∧ Hid (Below w.heap.size w wr) ∧ Hid (∀ i, i < k → ¬ ((l.getD i noRg).f ≤ c ∧ c ≤ (l.getD i noRg).t))) (fun iv _ => n - (intOf iv).toNat)
  case atStart => exact ⟨0, by omega, rfl, Below.refl _ _, fun i hi => absurd hi (by omega)⟩
  case round =>
    obtain ⟨k, hk, rfl, hbel, hall⟩ := hrel
    by_cases hlt : k < n
    · rcases H1.out with hc | ⟨b1, o1, rfl, hb1, c1⟩
      · omega
      have hb1' := hb1 (by omega)
      obtain ⟨d1, d2, d3⟩ := c1 k hlt
      have d1 := (hbel.out.cell (p := ⟨b1, o1 + k * 3, none⟩) hb1').trans d1
      have d2 := (hbel.out.cell (p := ⟨b1, o1 + k * 3 + 1, none⟩) hb1').trans d2
      have d3 := (hbel.out.cell (p := ⟨b1, o1 + k * 3 + 2, none⟩) hb1').trans d3
      have hh := hid (HH.out k hlt hall.out)
      have hnx : ¬ ((l.getD k noRg).f ≤ c ∧ c ≤ (l.getD k noRg).t) → ∀ i, i < k + 1 → ¬ ((l.getD i noRg).f ≤ c ∧ c ≤ (l.getD i noRg).t) := fun he i hi => by
        rcases Nat.lt_or_ge i k with h | h
        · exact hall.out i h
        · obtain rfl : i = k := by omega
          exact he
      have HNX := hid hnx
      clear hnx c1
      generalize l.getD k noRg = r at d1 d2 d3 hh HNX
      obtain ⟨rf, rt, rv⟩ := r
      simp only at d1 d2 d3 hh HNX
      have HBW : Hid (Below w.heap.size w (wr.alloc (.cells #[.int .i64 rf, .int .i64 rt, .int .i64 rv] 43))) := hid (hbel.out.alloc hbel.out.size _)
      by_cases hf : rf ≤ c
      · by_cases ht : c ≤ rt
        · have hr := hid (hh.out ⟨hf, ht⟩)
          go_wp2
          go_ret
          exact ⟨ret_i64' hr.out.symm, HBW.out⟩
        · have hr := hid (HNX.out (fun h => ht h.2))
          go_wp2
          go_roundw
          case rel => exact ⟨k + 1, by omega, by go_num, HBW.out, hr.out⟩
          case measure => simp [intOf]; omega
      · have hr := hid (HNX.out (fun h => hf h.1))
        go_wp2
        go_roundw
        case rel => exact ⟨k + 1, by omega, by go_num, HBW.out, hr.out⟩
        case measure => simp [intOf]; omega
    · obtain rfl : k = n := by omega
      have hr := hid (HN.out hall.out)
      go_wp2
      go_ret
      exact ⟨ret_i64' hr.out.symm, hbel.out⟩

/-- Check's answer -/
def chkE (l : List Rg) : Int := if flatS l then 0 else 1
theorem chkE_t {l : List Rg} (h : flatS l = true) : chkE l = 0 := by unfold chkE; rw [h]; rfl
theorem chkE_f {l : List Rg} (h : flatS l = false) : chkE l = 1 := by unfold chkE; rw [h]; rfl

set_option maxHeartbeats 2000000 in
theorem rngCheck (v : Value) (l : List Rg) (w : World) (h : Sg w v l) :
    Calls Try.prog 16 #[v] w fun e w' => e = .returned (.int .i64 (chkE l)) ∧ Below w.heap.size w w' := by
  have ml := h.len
  obtain ⟨a1, cap1, rfl, q1, -, h1⟩ := h
  obtain ⟨n, hn⟩ : ∃ n, n = l.length := ⟨_, rfl⟩
  have hT : n ≤ 2000 → (∀ i, i < n → okR (if i = 0 then -1 else (l.getD (i - 1) noRg).t) (l.getD i noRg)) → flatS l = true := fun h2 ha => by
    unfold flatS
    rw [decide_eq_true ⟨by omega, (okL_iff l (-1)).2 (by rw [← hn]; exact ha)⟩]
  have hF : ∀ i, i < n → ¬ okR (if i = 0 then -1 else (l.getD (i - 1) noRg).t) (l.getD i noRg) → flatS l = false := fun i hi hh => by
    unfold flatS
    exact decide_eq_false fun hx => hh ((okL_iff l (-1)).1 hx.2 i (by omega))
  have hB : 2000 < n → flatS l = false := fun hh => by
    unfold flatS
    exact decide_eq_false fun hx => by omega
  have HT := hid hT
  have HF := hid hF
  have HB := hid hB
  have H1 := hid h1
  rw [← hn] at ml q1 H1 ⊢
  clear hT hF hB h1 hn
  by_cases hbig : 2000 < n
  · have HR := hid (chkE_f (HB.out hbig))
    go_enter Try.func16, Try.ntmps16
    go_wp2
    go_ret
    exact ⟨by rw [HR.out]; rfl, Below.refl _ _⟩
  · have hn2 : n ≤ 2000 := by omega
    clear HB hbig
    go_enter Try.func16, Try.ntmps16
    go_wp2
    go_loopw [3, 11] (fun pv iv wr => ∃ (p : Int) (k : Nat), k ≤ n ∧ pv = .int .i64 p ∧ iv = .int .i64 k ∧ Hid (p = (if k = 0 then -1 else (l.getD (k - 1) noRg).t)) ∧ Hid (-1 ≤ p) ∧ Hid (Below w.heap.size w wr) ∧ Hid (∀ i, i < k → okR (if i = 0 then -1 else (l.getD (i - 1) noRg).t) (l.getD i noRg))) (fun _ iv _ => n - (intOf iv).toNat)
    case atStart => exact ⟨-1, 0, by omega, rfl, rfl, rfl, by show (-1 : Int) ≤ -1; omega, Below.refl _ _, fun i hi => absurd hi (by omega)⟩
    case round =>
      obtain ⟨p, k, hk, rfl, rfl, hp, hp1, hbel, hall⟩ := hrel
      by_cases hlt : k < n
      · rcases H1.out with hc | ⟨b1, o1, rfl, hb1, c1⟩
        · omega
        have hb1' := hb1 (by omega)
        obtain ⟨d1, d2, d3⟩ := c1 k hlt
        have d1 := (hbel.out.cell (p := ⟨b1, o1 + k * 3, none⟩) hb1').trans d1
        have d2 := (hbel.out.cell (p := ⟨b1, o1 + k * 3 + 1, none⟩) hb1').trans d2
        have d3 := (hbel.out.cell (p := ⟨b1, o1 + k * 3 + 2, none⟩) hb1').trans d3
        generalize hrr : l.getD k noRg = r at d1 d2 d3
        have HRR := hid hrr
        clear hrr c1
        obtain ⟨rf, rt, rv⟩ := r
        simp only at d1 d2 d3
        have HBW : Hid (Below w.heap.size w (wr.alloc (.cells #[.int .i64 rf, .int .i64 rt, .int .i64 rv] 43))) := hid (hbel.out.alloc hbel.out.size _)
        by_cases hok : p < rf ∧ rf ≤ rt ∧ rt ≤ 1114111 ∧ 1 ≤ rv ∧ rv ≤ 65535
        · have hnx : ∀ i, i < k + 1 → okR (if i = 0 then -1 else (l.getD (i - 1) noRg).t) (l.getD i noRg) := fun i hi => by
            rcases Nat.lt_or_ge i k with h | h
            · exact hall.out i h
            · obtain rfl : i = k := by omega
              rw [HRR.out, ← hp.out]
              have := hp1.out
              show 0 ≤ rf ∧ rf ≤ 1114111 ∧ rf ≤ rt ∧ rt ≤ 1114111 ∧ 1 ≤ rv ∧ rv ≤ 65535 ∧ p < rf
              omega
          have HNX := hid hnx
          have hpn : Hid (rt = (if k + 1 = 0 then -1 else (l.getD (k + 1 - 1) noRg).t)) := hid (by rw [if_neg (by omega), Nat.add_sub_cancel, HRR.out])
          have hpm : Hid (-1 ≤ rt) := hid (by have := hp1.out; omega)
          obtain ⟨o1, o2, o3, o4, o5⟩ := hok
          clear hnx
          go_wp2
          go_roundw
          case rel => exact ⟨rt, k + 1, by omega, rfl, by go_num, hpn.out, hpm.out, HBW.out, HNX.out⟩
          case measure => simp [intOf]; omega
        · have HR := hid (chkE_f (HF.out k hlt (by rw [HRR.out, ← hp.out]; intro hx; unfold okR maxS at hx; dsimp only at hx; omega)))
          by_cases o1 : rf ≤ p
          · clear hok
            go_wp2
            go_ret
            exact ⟨by rw [HR.out]; rfl, HBW.out⟩
          · by_cases o2 : rt < rf
            · clear hok
              go_wp2
              go_ret
              exact ⟨by rw [HR.out]; rfl, HBW.out⟩
            · by_cases o3 : 1114111 < rt
              · clear hok
                go_wp2
                go_ret
                exact ⟨by rw [HR.out]; rfl, HBW.out⟩
              · by_cases o4 : rv < 1
                · clear hok
                  go_wp2
                  go_ret
                  exact ⟨by rw [HR.out]; rfl, HBW.out⟩
                · have o5 : 65535 < rv := by omega
                  clear hok
                  go_wp2
                  go_ret
                  exact ⟨by rw [HR.out]; rfl, HBW.out⟩
      · obtain rfl : k = n := by omega
        have HR := hid (chkE_t (HT.out hn2 hall.out))
        go_wp2
        go_ret
        exact ⟨by rw [HR.out]; rfl, hbel.out⟩
end Go.Proofs.Ytlngnmcflooccaa
