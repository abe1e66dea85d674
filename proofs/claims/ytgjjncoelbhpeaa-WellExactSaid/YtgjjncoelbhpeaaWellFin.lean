/- The same answer told by a stack of ends in place of a recursion. No conditions. -/
import Derived.Test.YtgjjncoelbhpeaaWellMath
namespace Go.Proofs.Ytgjjncoelbhpeaa
open Go.RowKit

/-- what is left to say at place p, within values that end so (the innermost first), the deepest so far -/
def finW (b : List Int) : List Nat → Nat → Nat → WR
  | [], p, dp => if p < b.length then ⟨5, p, 0⟩ else ⟨0, 0, dp⟩
  | e :: st, p, dp =>
    if (listW (valW (31 - st.length)) ((b.drop p).take (e - p))).e ≠ 0 then ⟨(listW (valW (31 - st.length)) ((b.drop p).take (e - p))).e, p + (listW (valW (31 - st.length)) ((b.drop p).take (e - p))).pos, 0⟩
    else finW b st e (max dp (st.length + 1 + (listW (valW (31 - st.length)) ((b.drop p).take (e - p))).deep))

section
variable {b : List Int} {e : Nat} {st : List Nat} {p dp : Nat}

theorem fin_pop (h : st.length + 1 ≤ dp) : finW b (p :: st) p dp = finW b st p dp := by
  have e1 : (b.drop p).take (p - p) = [] := by simp
  rw [finW, e1, listW_nil, if_neg (by simp)]
  congr 1
  dsimp only
  omega

theorem fin_deep (hl : 31 ≤ st.length) (h1 : p < e) (h2 : e ≤ b.length) : finW b (e :: st) p dp = ⟨6, p, 0⟩ := by
  have hne : (b.drop p).take (e - p) ≠ [] := by
    intro h; have := congrArg List.length h; simp at this; omega
  have hv : valW (31 - st.length) ((b.drop p).take (e - p)) = ⟨6, 0, 0⟩ := by rw [show 31 - st.length = 0 by omega]; rfl
  rw [finW, listW_err hne (by rw [hv]; exact (show (6 : Int) ≠ 0 by decide)), hv, if_pos (show (6 : Int) ≠ 0 by decide)]
  rfl

theorem fin_bad (hl : st.length < 31) (h1 : p < e) (h2 : e ≤ b.length) (h : headE ((b.drop p).take (e - p)) ≠ 0) : finW b (e :: st) p dp = ⟨headE ((b.drop p).take (e - p)), p, 0⟩ := by
  have hne : (b.drop p).take (e - p) ≠ [] := by
    intro h; have := congrArg List.length h; simp at this; omega
  obtain ⟨k, hk⟩ : ∃ k, 31 - st.length = k + 1 := ⟨30 - st.length, by omega⟩
  have hv : valW (31 - st.length) ((b.drop p).take (e - p)) = ⟨headE ((b.drop p).take (e - p)), 0, 0⟩ := by rw [hk]; exact oneW_bad h
  rw [finW, listW_err hne (by rw [hv]; exact h), hv, if_pos h]
  rfl

theorem drop_span {xs : List Int} {p e n : Nat} (_h : n ≤ e - p) : ((xs.drop p).take (e - p)).drop n = (xs.drop (p + n)).take (e - (p + n)) := by
  rw [List.drop_take, List.drop_drop]
  congr 1
  omega

theorem fin_on (_hl : st.length < 31) (hu : U8 b) (h1 : p < e) (h2 : e ≤ b.length) (h : headE ((b.drop p).take (e - p)) = 0) {d : Nat}
    (hv : valW (31 - st.length) ((b.drop p).take (e - p)) = ⟨0, endS ((b.drop p).take (e - p)), d⟩) : finW b (e :: st) p dp = finW b (e :: st) (p + endS ((b.drop p).take (e - p))) (max dp (st.length + 1 + d)) := by
  have hne : (b.drop p).take (e - p) ≠ [] := by
    intro h; have := congrArg List.length h; simp at this; omega
  have hys : ((b.drop p).take (e - p)).length = e - p := by rw [List.length_take, List.length_drop]; omega
  have hyu : U8 ((b.drop p).take (e - p)) := (hu.drop p).take _
  obtain ⟨i0, i1, i2⟩ := ends_of hyu h
  have hlist : listW (valW (31 - st.length)) ((b.drop p).take (e - p)) = joinW (endS ((b.drop p).take (e - p))) d (listW (valW (31 - st.length)) ((b.drop (p + endS ((b.drop p).take (e - p)))).take (e - (p + endS ((b.drop p).take (e - p)))))) := by
    rw [listW_on hne (by rw [hv]) (by rw [hv]; dsimp only; omega), hv]
    dsimp only
    rw [drop_span (by omega)]
  rw [finW, hlist]
  generalize endS ((b.drop p).take (e - p)) = n at *
  rw [finW]
  generalize listW (valW (31 - st.length)) ((b.drop (p + n)).take (e - (p + n))) = r
  by_cases hr : r.e = 0
  · have hj : joinW n d r = ⟨0, n + r.pos, max d r.deep⟩ := by unfold joinW; rw [if_neg (by omega)]
    rw [hj, if_neg (show ¬ ((0 : Int) ≠ 0) by simp), if_neg (show ¬ (r.e ≠ 0) by omega)]
    dsimp only
    congr 1
    omega
  · have hj : joinW n d r = ⟨r.e, n + r.pos, 0⟩ := by unfold joinW; rw [if_pos hr]
    rw [hj, if_pos hr, if_pos hr]
    dsimp only
    rw [Nat.add_assoc]

theorem fin_leaf (hl : st.length < 31) (hu : U8 b) (h1 : p < e) (h2 : e ≤ b.length) (h : headE ((b.drop p).take (e - p)) = 0) (hc : ¬ (rd ((b.drop p).take (e - p))).1.cons = true) :
    finW b (e :: st) p dp = finW b (e :: st) (p + endS ((b.drop p).take (e - p))) (max dp (st.length + 2)) := by
  obtain ⟨k, hk⟩ : ∃ k, 31 - st.length = k + 1 := ⟨30 - st.length, by omega⟩
  exact fin_on hl hu h1 h2 h (d := 1) (by rw [hk]; exact oneW_leaf h hc)

theorem span_in {xs : List Int} {p e : Nat} (hu : U8 xs) (h2 : e ≤ xs.length) (h1 : p < e) (h : headE ((xs.drop p).take (e - p)) = 0) :
    (xs.drop (p + szS ((xs.drop p).take (e - p)))).take (p + endS ((xs.drop p).take (e - p)) - (p + szS ((xs.drop p).take (e - p)))) = bodyS ((xs.drop p).take (e - p)) := by
  have hys : ((xs.drop p).take (e - p)).length = e - p := by rw [List.length_take, List.length_drop]; omega
  have hyu : U8 ((xs.drop p).take (e - p)) := (hu.drop p).take _
  obtain ⟨i0, i1, i2⟩ := ends_of hyu h
  have hb : bodyS ((xs.drop p).take (e - p)) = (((xs.drop p).take (e - p)).drop (szS ((xs.drop p).take (e - p)))).take (bodyS ((xs.drop p).take (e - p))).length := by
    conv => lhs; unfold bodyS
    congr 1
    unfold bodyS
    rw [List.length_take, List.length_drop]
    have := (headE_ok hyu h).2.2.2.1
    have := (headE_ok hyu h).2.2.1
    unfold szS
    omega
  rw [hb, i1, drop_span (by omega), List.take_take]
  congr 1
  omega

theorem fin_in (hl : st.length < 31) (hu : U8 b) (h1 : p < e) (h2 : e ≤ b.length) (h : headE ((b.drop p).take (e - p)) = 0) (hc : (rd ((b.drop p).take (e - p))).1.cons = true) :
    finW b (e :: st) p dp = finW b ((p + endS ((b.drop p).take (e - p))) :: e :: st) (p + szS ((b.drop p).take (e - p))) (max dp (st.length + 2)) := by
  obtain ⟨k, hk⟩ : ∃ k, 31 - st.length = k + 1 := ⟨30 - st.length, by omega⟩
  have hb := span_in hu h2 h1 h
  have hv := oneW_in (g := listW (valW k)) h hc
  change valW (k + 1) _ = _ at hv
  rw [← hk] at hv
  have hne : (b.drop p).take (e - p) ≠ [] := by
    intro h; have := congrArg List.length h; simp at this; omega
  conv => rhs; rw [finW]
  rw [hb, show 31 - (e :: st).length = k by simp; omega]
  by_cases hr : (listW (valW k) (bodyS ((b.drop p).take (e - p)))).e = 0
  · rw [if_neg (show ¬ ((listW (valW k) (bodyS ((b.drop p).take (e - p)))).e ≠ 0) by omega)] at hv
    rw [if_neg (show ¬ ((listW (valW k) (bodyS ((b.drop p).take (e - p)))).e ≠ 0) by omega), fin_on hl hu h1 h2 h hv]
    congr 1
    simp only [List.length_cons]
    omega
  · rw [if_pos hr] at hv
    rw [if_pos hr, finW, listW_err hne (by rw [hv]; exact hr), hv, if_pos hr]
    dsimp only
    rw [Nat.add_assoc]

theorem well0_bad (h : headE b ≠ 0) : wellS b = ⟨headE b, 0, 0⟩ := by
  unfold wellS
  rw [show valW 32 b = ⟨headE b, 0, 0⟩ from oneW_bad h, if_pos h]
theorem well0_leaf (h : headE b = 0) (hc : ¬ (rd b).1.cons = true) : wellS b = finW b [] (endS b) 1 := by
  unfold wellS
  rw [show valW 32 b = ⟨0, endS b, 1⟩ from oneW_leaf h hc, if_neg (by simp), finW]
theorem well0_in (hu : U8 b) (h : headE b = 0) (hc : (rd b).1.cons = true) : wellS b = finW b [endS b] (szS b) 1 := by
  have hv : valW 32 b = _ := oneW_in (g := listW (valW 31)) h hc
  obtain ⟨i0, i1, i2⟩ := ends_of hu h
  have hb : (b.drop (szS b)).take (endS b - szS b) = bodyS b := by
    have := span_in (p := 0) (e := b.length) hu (Nat.le_refl _) (by omega) (by rw [List.drop_zero, Nat.sub_zero, List.take_length]; exact h)
    rw [List.drop_zero, Nat.sub_zero, List.take_length, Nat.zero_add, Nat.zero_add] at this
    exact this
  rw [finW, hb]
  simp only [List.length_nil, Nat.sub_zero, Nat.zero_add]
  unfold wellS
  by_cases hr : (listW (valW 31) (bodyS b)).e = 0
  · rw [if_neg (show ¬ ((listW (valW 31) (bodyS b)).e ≠ 0) by omega)] at hv
    rw [hv, if_neg (show ¬ ((0 : Int) ≠ 0) by simp), if_neg (show ¬ ((listW (valW 31) (bodyS b)).e ≠ 0) by omega), finW]
    dsimp only
    rw [show (listW (valW 31) (bodyS b)).deep + 1 = max 1 (1 + (listW (valW 31) (bodyS b)).deep) by omega]
  · rw [if_pos hr] at hv
    rw [hv, if_pos hr, if_pos hr]
end

end Go.Proofs.Ytgjjncoelbhpeaa
