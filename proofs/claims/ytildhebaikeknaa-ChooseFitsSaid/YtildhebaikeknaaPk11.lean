/- Several texts in one: Ucd7. -/
import Derived.Test.YtildhebaikeknaaPk2
import Derived.Test.YtildhebaikeknaaPk9
import Derived.Test.YtildhebaikeknaaPk1
/-! Ucd7 -/
namespace Go.Proofs.Ytildhebaikeknaa
open Go.RowKit

/-- the first place that a rule holds at, or -1 -/
def idxP (p : Rg → Bool) : List Rg → Int → Int
  | [], _ => -1
  | x :: l, k => if p x then k else idxP p l (k + 1)
theorem idxP_drop {p : Rg → Bool} : ∀ {l : List Rg} {k : Nat} {o : Int}, k ≤ l.length → (∀ i, i < k → p (l.getD i noRg) = false) → idxP p l o = idxP p (l.drop k) (o + (k : Int))
  | _, 0, o, _, _ => by simp
  | [], k + 1, _, h, _ => by simp at h
  | r :: l, k + 1, o, h, ha => by
    have h0 := ha 0 (by omega)
    simp only [List.getD_cons_zero] at h0
    rw [idxP, h0, List.drop_succ_cons, show o + ((k + 1 : Nat) : Int) = o + 1 + (k : Int) by omega]
    exact idxP_drop (by simpa using h) fun i hi => by simpa using ha (i + 1) (by omega)
theorem idxP_hit {p : Rg → Bool} {l : List Rg} {k : Nat} (h : k < l.length) (ha : ∀ i, i < k → p (l.getD i noRg) = false) (hk : p (l.getD k noRg) = true) : idxP p l 0 = (k : Int) := by
  rw [idxP_drop (by omega) ha, List.drop_eq_getElem_cons h, idxP]
  have e : l.getD k noRg = l[k] := by rw [List.getD_eq_getElem?_getD, List.getElem?_eq_getElem h]; rfl
  rw [e] at hk
  rw [hk]
  simp
theorem idxP_none {p : Rg → Bool} {l : List Rg} (ha : ∀ i, i < l.length → p (l.getD i noRg) = false) : idxP p l 0 = -1 := by
  rw [idxP_drop (Nat.le_refl _) ha, List.drop_length]
  rfl

/-- the rule, while block g is written -/
def DelAt (p : Rg → Bool) (B1 B2 g : Nat) (w : World) : Prop := ∀ wr, w.grownBy wr (some g) → ∀ a b c : Int,
  Calls Try.prog 79 #[.agg #[.int .i64 a, .int .i64 b, .int .i64 c], .pointer (some ⟨B1, 0, none⟩), .pointer (some ⟨B2, 0, none⟩)] wr fun e w' => e = .returned (.bool (p ⟨a, b, c⟩)) ∧ Below wr.heap.size wr w'
theorem grown_trans {w w1 w2 : World} {r : Option Nat} (h : w.grownBy w1 r) (k : w1.grownBy w2 r) : w.grownBy w2 r :=
  ⟨k.os.trans h.os, k.tape.trans h.tape, k.output.trans h.output, Nat.le_trans h.size k.size, fun i hi hn => (k.block i (Nat.lt_of_lt_of_le hi h.size) hn).trans (h.block i hi hn)⟩
theorem grown_below {w w1 : World} (h : Below w.heap.size w w1) (r : Option Nat) : w.grownBy w1 r := ⟨h.os, h.tape, h.output, h.size, fun i hi _ => h.block i hi⟩
theorem grown_set {w : World} (g j : Nat) (v : Value) : w.grownBy (w.setCell ⟨g, j, none⟩ v) (some g) :=
  ⟨rfl, rfl, rfl, (Below.setCell (Below.refl 0 w) (Nat.zero_le _) v).size, fun i _ hn => Below.heap_setCell _ _ _ _ fun e => hn (by rw [e])⟩

set_option maxHeartbeats 2000000 in
theorem slicesIndexFunc (p : Rg → Bool) (B1 B2 g : Nat) (v : Value) (l : List Rg) (w : World) (h : Sg w v l) (hd : DelAt p B1 B2 g w) :
    Calls Try.prog 60 #[v, .func (.func 79) #[] #[.pointer (some ⟨B1, 0, none⟩), .pointer (some ⟨B2, 0, none⟩)]] w fun e w' => e = .returned (.int .i64 (idxP p l 0)) ∧ Below w.heap.size w w' := by
  have ml := h.len
  obtain ⟨a1, cap1, rfl, q1, -, h1⟩ := h
  obtain ⟨n, hn⟩ : ∃ n, n = l.length := ⟨_, rfl⟩
  obtain ⟨R, hR⟩ : ∃ R, R = idxP p l 0 := ⟨_, rfl⟩
  have hH : ∀ k, k < n → (∀ i, i < k → p (l.getD i noRg) = false) → p (l.getD k noRg) = true → R = (k : Int) := fun k hk ha hh => hR.trans (idxP_hit (by omega) ha hh)
  have hN : (∀ i, i < n → p (l.getD i noRg) = false) → R = -1 := fun ha => hR.trans (idxP_none (by rw [← hn]; exact ha))
  rw [← hR]
  have HH := hid hH
  have HN := hid hN
  have H1 := hid h1
  have HD := hid hd
  rw [← hn] at ml q1 H1 ⊢
  clear hH hN h1 hn hR hd
  go_enter Try.func60, Try.ntmps60
  go_wp2_with (fail)
  go_loopw [8] (fun iv wr => ∃ k : Nat, k ≤ n ∧ iv = .int .i64 k ∧ Hid (Below w.heap.size w wr) ∧ Hid (∀ i, i < k → p (l.getD i noRg) = false)) (fun iv _ => n - (intOf iv).toNat)
  case atStart => exact ⟨0, by omega, rfl, Below.refl _ _, fun i hi => absurd hi (by omega)⟩
  case round =>
    obtain ⟨k, hk, rfl, hbel, hall⟩ := hrel
    by_cases hlt : k < n
    · rcases H1.out with hc | ⟨b1, o1, rfl, hb1, c1⟩
      · omega
      have hb1' := hb1 (by omega)
      obtain ⟨d1, d2, d3⟩ := c1 k hlt
      have d1 := (hbel.out.cell (p := ⟨b1, o1 + k * 3, none⟩) hb1').trans d1
      have d2 := (hbel.out.cell (p := ⟨b1, o1 + k * 3 + 1, none⟩) hb1').trans d2
      have d3 := (hbel.out.cell (p := ⟨b1, o1 + k * 3 + 2, none⟩) hb1').trans d3
      have hh := hid (HH.out k hlt hall.out)
      have HNX := hid (show p (l.getD k noRg) = false → ∀ i, i < k + 1 → p (l.getD i noRg) = false from fun he i hi => by
        rcases Nat.lt_or_ge i k with h | h
        · exact hall.out i h
        · obtain rfl : i = k := by omega
          exact he)
      clear c1
      generalize l.getD k noRg = r at d1 d2 d3 hh HNX
      obtain ⟨rf, rt, rv⟩ := r
      simp only at d1 d2 d3 hh HNX
      obtain ⟨b, hb⟩ : ∃ b, b = p ⟨rf, rt, rv⟩ := ⟨_, rfl⟩
      rw [← hb] at hh HNX
      have HC := hid (HD.out wr (grown_below hbel.out _) rf rt rv)
      rw [← hb] at HC
      clear hb
      cases b with
      | true =>
        have hr := hid (hh.out rfl)
        go_wp2_with (go_at_call 79; refine HC.out.mono ?_; rintro e wu ⟨rfl, hbu⟩; have HBU := hid (hbel.out.trans (hbu.mono hbel.out.size)); clear hbu)
        go_ret
        exact ⟨by rw [hr.out]; rfl, HBU.out⟩
      | false =>
        have hr := hid (HNX.out rfl)
        go_wp2_with (go_at_call 79; refine HC.out.mono ?_; rintro e wu ⟨rfl, hbu⟩; have HBU := hid (hbel.out.trans (hbu.mono hbel.out.size)); clear hbu)
        go_roundw
        case rel => exact ⟨k + 1, by omega, by go_num, HBU.out, hr.out⟩
        case measure => simp [intOf]; omega
    · obtain rfl : k = n := by omega
      have hr := hid (HN.out hall.out)
      go_wp2_with (fail)
      go_ret
      exact ⟨by rw [hr.out]; rfl, hbel.out⟩
end Go.Proofs.Ytildhebaikeknaa
