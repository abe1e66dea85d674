/- Plain facts of packing: what the ranges ahead of one say of a group's numbers. No conditions. -/
import Derived.Test.YtpdcmfnemfopjaaRngMath
import Derived.Test.YtpdcmfnemfopjaaSg
namespace Go.Proofs.Ytpdcmfnemfopjaa

theorem lookS_left : ∀ {a b : List Rg} {c : Int}, (∀ r ∈ b, ¬ (r.f ≤ c ∧ c ≤ r.t)) → lookS (a ++ b) c = lookS a c
  | [], [], _, _ => rfl
  | [], r :: b, c, h => by
    have h0 := h r (List.mem_cons_self ..)
    have e : lookS (r :: b) c = lookS b c := by rw [lookS, if_neg h0]
    rw [List.nil_append, e]
    exact lookS_left (a := []) (fun s hs => h s (List.mem_cons_of_mem _ hs))
  | x :: a, b, c, h => by
    rw [List.cons_append, lookS, lookS, lookS_left h]
theorem lookS_right : ∀ {a b : List Rg} {c : Int}, (∀ r ∈ a, ¬ (r.f ≤ c ∧ c ≤ r.t)) → lookS (a ++ b) c = lookS b c
  | [], _, _, _ => rfl
  | x :: a, b, c, h => by
    rw [List.cons_append, lookS, if_neg (h x (List.mem_cons_self ..))]
    exact lookS_right fun r hr => h r (List.mem_cons_of_mem _ hr)
theorem okL_low : ∀ {l : List Rg} {p : Int}, okL p l → ∀ r ∈ l, p < r.f
  | [], _, _, _, hm => by cases hm
  | x :: l, p, h, r, hm => by
    have hx := h.1
    unfold okR at hx
    rcases List.mem_cons.1 hm with rfl | hm
    · omega
    · have := okL_low h.2 r hm; omega
theorem okL_pair : ∀ {l : List Rg} {p : Int}, okL p l → l.Pairwise fun a b => a.t < b.f
  | [], _, _ => List.Pairwise.nil
  | _ :: _, _, h => List.pairwise_cons.2 ⟨fun r hr => okL_low h.2 r hr, okL_pair h.2⟩
theorem take_rg {l : List Rg} {i : Nat} (h : i < l.length) : l.take (i + 1) = l.take i ++ [l.getD i noRg] := by
  rw [List.take_add_one, List.getD_eq_getElem?_getD, List.getElem?_eq_getElem h]; rfl
theorem mem_take_rg {l : List Rg} {i : Nat} {r : Rg} (h : r ∈ l.take i) : ∃ j, j < i ∧ j < l.length ∧ l.getD j noRg = r := by
  obtain ⟨j, hj, rfl⟩ := List.getElem_of_mem h
  rw [List.length_take] at hj
  exact ⟨j, by omega, by omega, by rw [List.getD_eq_getElem?_getD, List.getElem?_eq_getElem (by omega)]; simp⟩
theorem mem_drop_rg {l : List Rg} {i : Nat} {r : Rg} (h : r ∈ l.drop i) : ∃ j, i ≤ j ∧ j < l.length ∧ l.getD j noRg = r := by
  obtain ⟨j, hj, rfl⟩ := List.getElem_of_mem h
  rw [List.length_drop] at hj
  exact ⟨i + j, by omega, by omega, by rw [List.getD_eq_getElem?_getD, List.getElem?_eq_getElem (by omega)]; simp⟩
theorem rg_pair {l : List Rg} (h : okL (-1) l) {i j : Nat} (hij : i < j) (hj : j < l.length) : (l.getD i noRg).t < (l.getD j noRg).f := by
  have := List.pairwise_iff_getElem.1 (okL_pair h) i j (by omega) hj hij
  rw [List.getD_eq_getElem?_getD, List.getD_eq_getElem?_getD, List.getElem?_eq_getElem (by omega), List.getElem?_eq_getElem hj]
  exact this
theorem rg_ok {l : List Rg} (h : okL (-1) l) {i : Nat} (hi : i < l.length) : 0 ≤ (l.getD i noRg).f ∧ (l.getD i noRg).f ≤ (l.getD i noRg).t ∧ (l.getD i noRg).t ≤ 1114111 ∧ 1 ≤ (l.getD i noRg).v ∧ (l.getD i noRg).v ≤ 65535 := by
  rw [List.getD_eq_getElem?_getD, List.getElem?_eq_getElem hi]
  exact okL_mem h (List.getElem_mem hi)
theorem pk_start {l : List Rg} {a : Nat} {b c : Int} (h : ∀ j, j < a → (l.getD j noRg).t < b) (hc : b ≤ c) : lookS (l.take a) c = 0 := by
  have := lookS_right (a := l.take a) (b := []) (c := c) fun r hr => by
    obtain ⟨j, hj, _, rfl⟩ := mem_take_rg hr
    have := h j hj
    omega
  rw [List.append_nil] at this
  rw [this]
  rfl
theorem pk_hit {l : List Rg} (h : okL (-1) l) {i : Nat} (hi : i < l.length) {c : Int} (hc : (l.getD i noRg).f ≤ c ∧ c ≤ (l.getD i noRg).t) : lookS (l.take (i + 1)) c = (l.getD i noRg).v := by
  rw [take_rg hi, lookS_right fun r hr => by
    obtain ⟨j, hj, _, rfl⟩ := mem_take_rg hr
    have := rg_pair h hj hi
    omega]
  rw [lookS, if_pos hc]
theorem pk_miss {l : List Rg} {i : Nat} (hi : i < l.length) {c : Int} (hc : ¬ ((l.getD i noRg).f ≤ c ∧ c ≤ (l.getD i noRg).t)) : lookS (l.take (i + 1)) c = lookS (l.take i) c := by
  rw [take_rg hi]
  exact lookS_left fun r hr => by
    simp only [List.mem_singleton] at hr
    subst hr
    exact hc
theorem pk_end {l : List Rg} (h : okL (-1) l) {i : Nat} {b c : Int} (hi : i = l.length ∨ b ≤ (l.getD i noRg).f) (hc : c < b) : lookS (l.take i) c = lookS l c := by
  have e : lookS (l.take i ++ l.drop i) c = lookS (l.take i) c := lookS_left fun r hr => by
    obtain ⟨j, hj, hjl, rfl⟩ := mem_drop_rg hr
    rcases hi with hi | hi
    · omega
    · rcases Nat.lt_or_ge i j with h1 | h1
      · have := rg_pair h h1 hjl
        have := rg_ok h (show i < l.length by omega)
        omega
      · obtain rfl : i = j := by omega
        omega
  rw [List.take_append_drop] at e
  exact e.symm

/-- a row of numbers as cells -/
def iv (ys : List Int) : List Value := ys.map (Value.int .i64)
theorem iv_len (ys : List Int) : (iv ys).length = ys.length := by simp [iv]
theorem iv_at {ys : List Int} {i : Nat} (h : i < ys.length) : (iv ys)[i]? = some (.int .i64 (ys.getD i 0)) := by
  simp [iv, List.getD_eq_getElem?_getD, List.getElem?_eq_getElem h]
theorem iv_set (ys : List Int) (i : Nat) (v : Int) : (iv ys).set i (.int .i64 v) = iv (ys.set i v) := by simp [iv, List.map_set]
theorem set_getD {ys : List Int} {i j : Nat} {v : Int} (h : i < ys.length) : (ys.set i v).getD j 0 = if j = i then v else ys.getD j 0 := by
  simp only [List.getD_eq_getElem?_getD, List.getElem?_set]
  by_cases hij : i = j
  · subst hij; simp [h]
  · rw [if_neg hij, if_neg (fun e => hij e.symm)]
theorem con_len (v : Int) : (con v).length = 256 := List.length_replicate
theorem con_at {v : Int} {i : Nat} (h : i < 256) : (con v).getD i 0 = v := by
  rw [List.getD_eq_getElem?_getD, List.getElem?_eq_getElem (by rw [con_len]; exact h)]
  exact List.getElem_replicate _
theorem blk_eq {g : Nat → Int} {k : Nat} {ys : List Int} (hl : ys.length = 256) (h : ∀ j, j < 256 → ys.getD j 0 = g (256 * k + j)) : ys = blk g k := by
  apply List.ext_getElem (by rw [hl, blk_len])
  intro i h1 h2
  have := h i (by omega)
  rw [← blk_at g k i (by omega), List.getD_eq_getElem?_getD, List.getD_eq_getElem?_getD, List.getElem?_eq_getElem h1, List.getElem?_eq_getElem h2] at this
  exact this
/-- searching the blocks one by one -/
theorem idx_found {bs : List (List Int)} {b : List Int} {q : Nat} (hq : q < bs.length) (hb : bs.getD q [] = b) (hn : ∀ i, i < q → bs.getD i [] ≠ b) : bs.idxOf b = q := by
  have hm : b ∈ bs := by
    rw [← hb, List.getD_eq_getElem?_getD, List.getElem?_eq_getElem hq]
    exact List.getElem_mem hq
  have h1 := List.idxOf_lt_length_iff.2 hm
  have h2 : bs.getD (bs.idxOf b) [] = b := by
    rw [List.getD_eq_getElem?_getD, List.getElem?_eq_getElem h1]; simp
  rcases Nat.lt_trichotomy (bs.idxOf b) q with h | h | h
  · exact absurd h2 (hn _ h)
  · exact h
  · have h3 : b ∈ bs.take (q + 1) := by
      rw [List.take_add_one, List.getElem?_eq_getElem hq]
      refine List.mem_append_right _ ?_
      rw [List.getD_eq_getElem?_getD, List.getElem?_eq_getElem hq] at hb
      simp only [Option.getD_some] at hb
      simp [hb]
    have h4 : bs.idxOf b = (bs.take (q + 1)).idxOf b := by
      conv => lhs; rw [← List.take_append_drop (q + 1) bs]
      rw [List.idxOf_append, if_pos h3]
    have h5 := List.idxOf_lt_length_iff.2 h3
    rw [List.length_take] at h5
    omega
theorem idx_none {bs : List (List Int)} {b : List Int} (hn : ∀ i, i < bs.length → bs.getD i [] ≠ b) : b ∉ bs := fun hm => by
  have h1 := List.idxOf_lt_length_iff.2 hm
  refine hn _ h1 ?_
  rw [List.getD_eq_getElem?_getD, List.getElem?_eq_getElem h1]
  simp
theorem pack_next {g : Nat → Int} {k : Nat} (h : blk g k ∉ (packN g k).2) : (packN g (k + 1)).1 = (packN g k).1 ++ [(packN g k).2.length] ∧ (packN g (k + 1)).2 = (packN g k).2 ++ [blk g k] := by
  rw [packN]
  exact ⟨by rw [List.idxOf_eq_length h], by rw [if_neg h]⟩
theorem pack_same {g : Nat → Int} {k : Nat} (h : blk g k ∈ (packN g k).2) : (packN g (k + 1)).1 = (packN g k).1 ++ [(packN g k).2.idxOf (blk g k)] ∧ (packN g (k + 1)).2 = (packN g k).2 := by
  rw [packN]
  exact ⟨rfl, by rw [if_pos h]⟩
theorem nats_snoc (l : List Nat) (n : Nat) : nats (l ++ [n]) = nats l ++ [(n : Int)] := by simp [nats]
theorem flatten_snoc (bs : List (List Int)) (b : List Int) : (bs ++ [b]).flatten = bs.flatten ++ b := by simp
end Go.Proofs.Ytpdcmfnemfopjaa
