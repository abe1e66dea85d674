/- What checking nested values answers: more levels, what stands behind, values one behind the other, the parts. No conditions. -/
import Derived.Test.YtgjjncoelbhpeaaWellSpec
import Derived.Test.YtgjjncoelbhpeaaTlvMath2
namespace Go.Proofs.Ytgjjncoelbhpeaa
open Go.RowKit

theorem oneW_bad {g : List Int → WR} {xs : List Int} (h : headE xs ≠ 0) : oneW g xs = ⟨headE xs, 0, 0⟩ := by unfold oneW; rw [if_pos h]
theorem oneW_leaf {g : List Int → WR} {xs : List Int} (h : headE xs = 0) (hc : ¬ (rd xs).1.cons = true) : oneW g xs = ⟨0, endS xs, 1⟩ := by unfold oneW; rw [if_neg (by omega), if_neg hc]
theorem oneW_in {g : List Int → WR} {xs : List Int} (h : headE xs = 0) (hc : (rd xs).1.cons = true) :
    oneW g xs = if (g (bodyS xs)).e ≠ 0 then ⟨(g (bodyS xs)).e, szS xs + (g (bodyS xs)).pos, 0⟩ else ⟨0, endS xs, (g (bodyS xs)).deep + 1⟩ := by unfold oneW; rw [if_neg (by omega), if_pos hc]

theorem rd_app {xs : List Int} (hu : U8 xs) (h : (rd xs).2 = 0) (ys : List Int) : rd (xs ++ ys) = rd xs := by
  have h1 := rd_only xs hu h
  have hb := rd_bd xs hu h
  have hl : ((hdB (rd xs).1).length : Int) = (rd xs).1.size := by rw [h1, List.length_take]; omega
  have e : xs ++ ys = hdB (rd xs).1 ++ (xs.drop (rd xs).1.size.toNat ++ ys) := by
    rw [h1, ← List.append_assoc, List.take_append_drop]
  rw [e, rd_back _ _ hb.1, hl]
  obtain ⟨hd, E⟩ : ∃ r : Hd × Int, r = rd xs := ⟨_, rfl⟩
  cases hr : rd xs with
  | mk a b => rw [hr] at h; dsimp only at h; subst h; rfl

theorem headE_app {xs : List Int} (hu : U8 xs) (h : headE xs = 0) (ys : List Int) :
    headE (xs ++ ys) = 0 ∧ szS (xs ++ ys) = szS xs ∧ bodyS (xs ++ ys) = bodyS xs ∧ endS (xs ++ ys) = endS xs ∧ (rd (xs ++ ys)).1.cons = (rd xs).1.cons := by
  obtain ⟨h1, ⟨_, _, l0, _⟩, h3, h4, h5, h6⟩ := headE_ok hu h
  have hr := rd_app hu h1 ys
  refine ⟨?_, by unfold szS; rw [hr], ?_, by unfold endS; rw [hr], by rw [hr]⟩
  · unfold headE
    rw [hr, if_neg (by omega), if_neg h5, if_neg (by simp [h6]), if_neg (by rw [List.length_append]; omega)]
  · unfold bodyS szS
    rw [hr, List.drop_append_of_le_length (by omega), List.take_append_of_le_length (by rw [List.length_drop]; omega)]

theorem valW_app {k : Nat} {xs : List Int} (hu : U8 xs) (h : (valW k xs).e = 0) (ys : List Int) : valW k (xs ++ ys) = valW k xs := by
  match k with
  | 0 => rfl
  | k + 1 =>
    have hE : headE xs = 0 := by
      simp only [valW, oneW] at h
      split at h
      · exact h
      · omega
    obtain ⟨e1, e2, e3, e4, e5⟩ := headE_app hu hE ys
    simp only [valW, oneW]
    rw [e1, e2, e3, e4, e5, hE]

theorem valW_head {k : Nat} {xs : List Int} (h : (valW k xs).e = 0) : headE xs = 0 := by
  match k with
  | 0 => simp [valW] at h
  | k + 1 =>
    simp only [valW, oneW] at h
    split at h
    · exact h
    · omega

theorem valW_pos {k : Nat} {xs : List Int} (h : (valW k xs).e = 0) : (valW k xs).pos = endS xs := by
  have hE := valW_head h
  match k with
  | 0 => simp [valW] at h
  | k + 1 =>
    simp only [valW, oneW] at h ⊢
    rw [if_neg (by simp [hE])] at h ⊢
    split at h
    · rename_i hc
      rw [if_pos hc]
      split at h
      · rename_i h2; exact absurd h h2
      · rename_i h2; rw [if_neg h2]
    · rename_i hc; rw [if_neg hc]

/-- the rest of the list, behind a value that is right -/
theorem listW_next {k : Nat} {xs : List Int} (hu : U8 xs) (hx : xs ≠ []) (h : (valW k xs).e = 0) : listW (valW k) xs = joinW (valW k xs).pos (valW k xs).deep (listW (valW k) (xs.drop (valW k xs).pos)) :=
  listW_on hx h (by have := (valW_bd k xs hu).2 h; omega)

theorem listW_step {k : Nat} : ∀ (n : Nat) (xs : List Int), xs.length ≤ n → U8 xs → (∀ ys, U8 ys → ys.length ≤ xs.length → valW (k + 1) ys = valW k ys ∨ ((valW k ys).e = 6 ∧ 2 * k ≤ (valW k ys).pos)) →
    listW (valW (k + 1)) xs = listW (valW k) xs ∨ ((listW (valW k) xs).e = 6 ∧ 2 * k ≤ (listW (valW k) xs).pos)
  | 0, xs, hn, hu, _ => by
    have : xs = [] := List.eq_nil_of_length_eq_zero (by omega)
    subst this
    left; rw [listW_nil, listW_nil]
  | n + 1, xs, hn, hu, hv => by
    by_cases hx : xs = []
    · subst hx; left; rw [listW_nil, listW_nil]
    · have hl := List.length_pos_iff.2 hx
      rcases hv xs hu (Nat.le_refl _) with he | ⟨h1, h2⟩
      · by_cases h0 : (valW k xs).e = 0
        · have hb := (valW_bd k xs hu).2 h0
          rw [listW_next hu hx h0, listW_on hx (by rw [he]; exact h0) (by rw [he]; omega), he]
          rcases listW_step n (xs.drop (valW k xs).pos) (by rw [List.length_drop]; omega) (hu.drop _) (fun ys h1 h2 => hv ys h1 (by rw [List.length_drop] at h2; omega)) with h | ⟨h, h'⟩
          · left; rw [h]
          · right
            unfold joinW
            rw [if_pos (by omega)]
            exact ⟨h, by dsimp only; omega⟩
        · left
          rw [listW_err hx h0, listW_err hx (by rw [he]; exact h0), he]
      · right
        rw [listW_err hx (by omega)]
        exact ⟨h1, h2⟩

/-- one level more changes an answer only if the levels did not suffice -/
theorem valW_up : ∀ (k : Nat) (xs : List Int), U8 xs → valW (k + 1) xs = valW k xs ∨ ((valW k xs).e = 6 ∧ 2 * k ≤ (valW k xs).pos)
  | 0, xs, hu => .inr ⟨rfl, by simp⟩
  | k + 1, xs, hu => by
    by_cases hE : headE xs = 0
    · have hs := ends_of hu hE
      by_cases hc : (rd xs).1.cons = true
      · rcases listW_step (k := k) _ (bodyS xs) (Nat.le_refl _) (bodyS_u8 hu) (fun ys h _ => valW_up k ys h) with h | ⟨h, h'⟩
        · left
          show oneW (listW (valW (k + 1))) xs = oneW (listW (valW k)) xs
          unfold oneW
          rw [h]
        · right
          show (oneW (listW (valW k)) xs).e = 6 ∧ _ ≤ (oneW (listW (valW k)) xs).pos
          unfold oneW
          rw [if_neg (by omega), if_pos hc, if_pos (by omega)]
          exact ⟨h, by dsimp only; omega⟩
      · left
        show oneW (listW (valW (k + 1))) xs = oneW (listW (valW k)) xs
        rw [oneW_leaf hE hc, oneW_leaf hE hc]
    · left
      show oneW (listW (valW (k + 1))) xs = oneW (listW (valW k)) xs
      rw [oneW_bad hE, oneW_bad hE]

theorem listW_up (k : Nat) (xs : List Int) (hu : U8 xs) : listW (valW (k + 1)) xs = listW (valW k) xs ∨ ((listW (valW k) xs).e = 6 ∧ 2 * k ≤ (listW (valW k) xs).pos) :=
  listW_step _ xs (Nat.le_refl _) hu fun ys h _ => valW_up k ys h

theorem listW_dn {k : Nat} : ∀ (n : Nat) (xs : List Int), xs.length ≤ n → U8 xs → (∀ ys, U8 ys → ys.length ≤ xs.length → (valW (k + 1) ys).e = 0 → (valW (k + 1) ys).deep ≤ k → valW k ys = valW (k + 1) ys) →
    (listW (valW (k + 1)) xs).e = 0 → (listW (valW (k + 1)) xs).deep ≤ k → listW (valW k) xs = listW (valW (k + 1)) xs
  | 0, xs, hn, hu, _, _, _ => by
    have : xs = [] := List.eq_nil_of_length_eq_zero (by omega)
    subst this
    rw [listW_nil, listW_nil]
  | n + 1, xs, hn, hu, hv, h0, hd => by
    by_cases hx : xs = []
    · subst hx; rw [listW_nil, listW_nil]
    · have hl := List.length_pos_iff.2 hx
      by_cases he : (valW (k + 1) xs).e = 0
      · have hb := (valW_bd (k + 1) xs hu).2 he
        rw [listW_next hu hx he] at h0 hd ⊢
        unfold joinW at h0 hd
        split at h0
        · rename_i hh; exact absurd h0 hh
        · rename_i hh
          rw [if_neg hh] at hd
          dsimp only at hd
          have e1 := hv xs hu (Nat.le_refl _) he (by omega)
          have e2 := listW_dn n (xs.drop (valW (k + 1) xs).pos) (by rw [List.length_drop]; omega) (hu.drop _) (fun ys h1 h2 => hv ys h1 (by rw [List.length_drop] at h2; omega)) (by omega) (by omega)
          rw [listW_on hx (by rw [e1]; exact he) (by rw [e1]; omega), e1, e2]
      · rw [listW_err hx he] at h0
        exact absurd h0 he

/-- what is not so deep needs one level less -/
theorem valW_dn : ∀ (k : Nat) (xs : List Int), U8 xs → (valW (k + 1) xs).e = 0 → (valW (k + 1) xs).deep ≤ k → valW k xs = valW (k + 1) xs
  | 0, xs, hu, h0, hd => by have := (valW_bd (0 + 1) xs hu).2 h0; omega
  | k + 1, xs, hu, h0, hd => by
    have hE := valW_head h0
    show oneW (listW (valW k)) xs = oneW (listW (valW (k + 1))) xs
    change (oneW (listW (valW (k + 1))) xs).e = 0 at h0
    change (oneW (listW (valW (k + 1))) xs).deep ≤ k + 1 at hd
    by_cases hc : (rd xs).1.cons = true
    · rw [oneW_in hE hc] at h0 hd
      rw [oneW_in hE hc, oneW_in hE hc]
      by_cases hh : (listW (valW (k + 1)) (bodyS xs)).e = 0
      · rw [if_neg (by omega)] at hd
        dsimp only at hd
        rw [listW_dn _ (bodyS xs) (Nat.le_refl _) (bodyS_u8 hu) (fun ys h _ h1 h2 => valW_dn k ys h h1 h2) hh (by omega)]
      · rw [if_pos hh] at h0
        exact absurd h0 hh
    · rw [oneW_leaf hE hc, oneW_leaf hE hc]

/-- a value that is right, then others -/
theorem listW_app {k : Nat} {xs ys : List Int} (hx : U8 xs) (hy : U8 ys) (h : (valW k xs).e = 0) (hp : (valW k xs).pos = xs.length) :
    listW (valW k) (xs ++ ys) = joinW xs.length (valW k xs).deep (listW (valW k) ys) := by
  have hb := (valW_bd k xs hx).2 h
  have ha := valW_app hx h ys
  have hne : xs ++ ys ≠ [] := by
    intro hh
    have := congrArg List.length hh
    simp at this
    obtain ⟨rfl, rfl⟩ := this
    simp at hp; omega
  rw [listW_on hne (by rw [ha]; exact h) (by rw [ha]; omega), ha, hp, List.drop_left]

/-- a list that is right: its first value -/
theorem listW_cut {k : Nat} {xs : List Int} (hu : U8 xs) (hx : xs ≠ []) (h : (listW (valW k) xs).e = 0) :
    (valW k xs).e = 0 ∧ (listW (valW k) (xs.drop (endS xs))).e = 0 ∧ headE xs = 0 := by
  by_cases he : (valW k xs).e = 0
  · rw [listW_next hu hx he, valW_pos he] at h
    unfold joinW at h
    split at h
    · rename_i hh; exact absurd h hh
    · rename_i hh; exact ⟨he, by omega, valW_head he⟩
  · rw [listW_err hx he] at h
    exact absurd h he

theorem partsS_nil : partsS [] = [] := by rw [partsS]; simp
theorem partsS_on {xs : List Int} (hx : xs ≠ []) (h : 0 < endS xs) : partsS xs = xs.take (endS xs) :: partsS (xs.drop (endS xs)) := by rw [partsS, dif_pos ⟨hx, h⟩]

end Go.Proofs.Ytgjjncoelbhpeaa
