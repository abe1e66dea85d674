/- Several texts in one: Ref13a, Ref13b, Ref13c. -/
import Derived.Test.YtildhebaikeknaaGreatPk19
import Derived.Test.YtildhebaikeknaaGreatPk18
import Derived.Test.YtildhebaikeknaaGreatPk1
import Derived.BigQuiet
/-! Ref13a -/
namespace Go.Proofs.YtildhebaikeknaaGreat
open Go.RowKit

set_option maxHeartbeats 2000000 in
theorem refUtf8 (c : Int) (w : World) (h : scalarB c = true) : Calls Tryz.prog 52 #[.int .i64 c] w fun e w' => ∃ x, e = .returned x ∧ Own .u8 5 w.heap.size w' x (u8enc c) ∧ Below w.heap.size w w' := by
  unfold scalarB at h
  have h := of_decide_eq_true h
  have h0 : 0 ≤ c := h.1
  have hm : c ≤ 1114111 := h.2.1
  clear h
  by_cases h1 : c < 128
  · have HE := hid (show u8enc c = [c] by unfold u8enc; rw [if_pos (by omega)])
    go_enter Tryz.func52, Tryz.ntmps52
    go_wp2
    go_ret
    exact ⟨_, rfl, by rw [HE.out]; exact lit_own rfl (Nat.le_refl _) rfl rfl (by simp), by (repeat (first | exact Below.refl _ _ | exact below_drewN _ | refine Below.drew ?_ | refine Below.alloc ?_ (by simp) _ | refine Below.setCell ?_ (by simp) _ | refine below_drewN' ?_ _))⟩
  by_cases h2 : c < 2048
  · have HE := hid (show u8enc c = [192 + c / 64, 128 + c % 64] by unfold u8enc; rw [if_neg (by omega), if_pos (by omega)])
    go_enter Tryz.func52, Tryz.ntmps52
    go_wp2
    go_ret
    exact ⟨_, rfl, by rw [HE.out]; exact lit_own rfl (Nat.le_refl _) rfl rfl (by simp), by (repeat (first | exact Below.refl _ _ | exact below_drewN _ | refine Below.drew ?_ | refine Below.alloc ?_ (by simp) _ | refine Below.setCell ?_ (by simp) _ | refine below_drewN' ?_ _))⟩
  by_cases h3 : c < 65536
  · have HE := hid (show u8enc c = [224 + c / 4096, 128 + c / 64 % 64, 128 + c % 64] by unfold u8enc; rw [if_neg (by omega), if_neg (by omega), if_pos (by omega)])
    go_enter Tryz.func52, Tryz.ntmps52
    go_wp2
    go_ret
    exact ⟨_, rfl, by rw [HE.out]; exact lit_own rfl (Nat.le_refl _) rfl rfl (by simp), by (repeat (first | exact Below.refl _ _ | exact below_drewN _ | refine Below.drew ?_ | refine Below.alloc ?_ (by simp) _ | refine Below.setCell ?_ (by simp) _ | refine below_drewN' ?_ _))⟩
  · have HE := hid (show u8enc c = [240 + c / 262144, 128 + c / 4096 % 64, 128 + c / 64 % 64, 128 + c % 64] by unfold u8enc; rw [if_neg (by omega), if_neg (by omega), if_neg (by omega)])
    go_enter Tryz.func52, Tryz.ntmps52
    go_wp2
    go_ret
    exact ⟨_, rfl, by rw [HE.out]; exact lit_own rfl (Nat.le_refl _) rfl rfl (by simp), by (repeat (first | exact Below.refl _ _ | exact below_drewN _ | refine Below.drew ?_ | refine Below.alloc ?_ (by simp) _ | refine Below.setCell ?_ (by simp) _ | refine below_drewN' ?_ _))⟩
end Go.Proofs.YtildhebaikeknaaGreat

/-! Ref13b -/
namespace Go.Proofs.YtildhebaikeknaaGreat
open Go.RowKit

theorem cont_app : ∀ (c : Int) (r s : List Int), cont c (r ++ s) = match cont c r with | none => none | some d => cont d s
  | c, [], s => rfl
  | c, b :: r, s => by
    simp only [List.cons_append, cont]
    split
    · rfl
    · exact cont_app _ r s
/-- one byte more -/
theorem cont_next {c d : Int} {r : List Int} {j : Nat} (hj : j < r.length) (h : cont c (r.take j) = some d) : cont c (r.take (j + 1)) = if r.getD j 0 < 128 ∨ 192 ≤ r.getD j 0 then none else some (64 * d + r.getD j 0 - 128) := by
  have e : r.getD j 0 = r[j] := by rw [List.getD_eq_getElem?_getD, List.getElem?_eq_getElem hj]; rfl
  rw [List.take_succ_eq_append_getElem hj, cont_app, h, e]
  simp only [cont]
theorem cont_stop {c : Int} {r : List Int} {j m : Nat} (hm : j ≤ m) (h : cont c (r.take j) = none) : cont c (r.take m) = none := by
  have e : r.take m = r.take j ++ (r.take m).drop j := by
    rw [show r.take j = (r.take m).take j by rw [List.take_take, Nat.min_eq_left hm]]
    exact (List.take_append_drop j _).symm
  rw [e, cont_app, h]
theorem one_few {c0 : Int} {r : List Int} (h1 : ¬ c0 < 128) (h : (lead c0).1 = 0 ∨ r.length + 1 < (lead c0).1) : u8one (c0 :: r) = (0, 0) := by rw [u8one, if_neg h1, if_pos h]
theorem one_none {c0 : Int} {r : List Int} (h1 : ¬ c0 < 128) (h : ¬ ((lead c0).1 = 0 ∨ r.length + 1 < (lead c0).1)) (hc : cont (lead c0).2 (r.take ((lead c0).1 - 1)) = none) : u8one (c0 :: r) = (0, 0) := by rw [u8one, if_neg h1, if_neg h, hc]
theorem one_some {c0 c : Int} {r : List Int} (h1 : ¬ c0 < 128) (h : ¬ ((lead c0).1 = 0 ∨ r.length + 1 < (lead c0).1)) (hc : cont (lead c0).2 (r.take ((lead c0).1 - 1)) = some c) : u8one (c0 :: r) = if scalarB c = true ∧ (u8enc c).length = (lead c0).1 then (c, (lead c0).1) else (0, 0) := by rw [u8one, if_neg h1, if_neg h, hc]

end Go.Proofs.YtildhebaikeknaaGreat

/-! Ref13c -/
namespace Go.Proofs.YtildhebaikeknaaGreat
open Go.RowKit

theorem put_part {s x : List Int} {j : Nat} (hj : j < s.length) (h : putU (s.take j) = .inl x) :
    (scalarB (s.getD j 0) = false → putU s = .inr j) ∧ (scalarB (s.getD j 0) = true → putU (s.take (j + 1)) = .inl (x ++ u8enc (s.getD j 0))) := by
  have e : s.getD j 0 = s[j] := by rw [List.getD_eq_getElem?_getD, List.getElem?_eq_getElem hj]; rfl
  rw [e]
  constructor
  · intro hs
    have h2 : s = s.take j ++ (s[j] :: s.drop (j + 1)) := by rw [List.getElem_cons_drop, List.take_append_drop]
    have hp := put_app (s.take j) (s[j] :: s.drop (j + 1))
    rw [← h2, h] at hp
    rw [hp]
    simp only [putU, hs, Bool.false_eq_true, if_false, List.length_take]
    congr 1
    omega
  · intro hs
    rw [List.take_succ_eq_append_getElem hj, put_app, h]
    simp [putU, hs]

set_option maxHeartbeats 4000000 in
theorem refPut13 (v : Value) (s : List Int) (w : World) (hs : Sl .i64 w v s) (hl : s.length ≤ 100000) : Calls Tryz.prog 35 #[v] w fun e w' =>
    ∃ x, e = .returned (.tuple #[x, .int .i64 (outAt (putU s)), .int .i64 (outE 14 (putU s))]) ∧ Sl .u8 w' x (outL (putU s)) ∧ Below w.heap.size w w' := by
  obtain ⟨a1, cap1, rfl, q1, -, h1⟩ := hs
  obtain ⟨n, hn⟩ : ∃ n, n = s.length := ⟨_, rfl⟩
  have HN := hid hn
  have H1 := hid h1
  rw [← hn] at q1 hl ⊢
  clear h1 hn
  go_enter Tryz.func35, Tryz.ntmps35
  go_wp2
  go_loopw [5, 6] (fun bv iv wr => ∃ (j : Nat) (x : List Int), j ≤ n ∧ iv = .int .i64 j ∧ Hid (Own .u8 5 w.heap.size wr bv x) ∧ Hid (Below w.heap.size w wr) ∧ Hid (putU (s.take j) = .inl x) ∧ x.length ≤ 4 * j) (fun _ iv _ => n - (intOf iv).toNat)
  case atStart => exact ⟨0, [], by omega, rfl, Own.nil _ _ _ _, Below.refl _ _, by show putU (s.take 0) = _; rfl, by simp⟩
  case round =>
    obtain ⟨j, x, hj, rfl, hown, hbel, hput, hxl⟩ := hrel
    by_cases hlt : j < n
    · rcases H1.out with hcc | ⟨b1, o1, rfl, hb1, hc⟩
      · omega
      have hb1' := hb1 (by have := HN.out; omega)
      have d1 := (hbel.out.cell (p := ⟨b1, o1 + j, none⟩) hb1').trans (hc j (by have := HN.out; omega))
      obtain ⟨p1, p2⟩ := put_part (by have := HN.out; omega) hput.out
      clear hc hb1 hb1'
      generalize s.getD j 0 = c at d1 p1 p2
      cases hsc : scalarB c with
      | false =>
        have HSC := hid hsc
        have HP := hid (p1 hsc)
        clear p1 p2 hsc
        go_wp2_with (go_at_call 51; refine (refScalar6 c _).mono ?_; rw [HSC.out]; rintro e w1 ⟨rfl, rfl⟩)
        go_ret3
        exact ⟨_, by rw [HP.out]; rfl, by rw [HP.out]; exact (Own.nil .u8 5 0 _).sl, hbel.out⟩
      | true =>
        have HSC := hid hsc
        have HP := hid (p2 hsc)
        clear p1 p2 hsc
        have hel := u8enc_len c
        have HX := hid (show (x ++ u8enc c).length = x.length + (u8enc c).length by simp)
        go_wp2_with (first
          | (go_at_call 51; refine (refScalar6 c _).mono ?_; rw [HSC.out]; rintro e w1 ⟨rfl, rfl⟩)
          | (go_at_call 52; refine (refUtf8 c _ HSC.out).mono ?_; rintro e w1 ⟨v1, rfl, ho1, hb1⟩; have HO1 := hid ho1; have HB1 := hid hb1; have HW1 := hid (hown.out.below hb1); have HB01 := hid (hbel.out.trans (hb1.mono hbel.out.size)); clear ho1 hb1)
          | (at_builtin; go_loud (refine wpList_app _ rfl _ _ 42 rfl .u8 w.heap.size 5 1 Tryz.underlying42 Tryz.infoU8 _ x (u8enc c) rfl HW1.out _ rfl HO1.out.sl (by unfold maxLen; omega) (by omega) HB01.out.size ?_); intro v5 w5 ho5 hg5 hb5 hn5; have HO5 := hid ho5; have HB5 := hid (HB01.out.trans hb5); clear ho5 hg5 hb5 hn5))
        go_roundw
        case rel => exact ⟨j + 1, x ++ u8enc c, by omega, by go_num, HO5.out, HB5.out, HP.out, by rw [HX.out]; omega⟩
        case measure => simp [intOf]; omega
    · obtain rfl : j = n := by omega
      have HP := hid (show putU s = .inl x by rw [← hput.out, HN.out, List.take_length])
      go_wp2
      go_ret3
      exact ⟨_, by rw [HP.out]; rfl, by rw [HP.out]; exact hown.out.sl, hbel.out⟩

theorem got_part {b t : List Int} {j : Nat} (hj : j < b.length) (h : getU b = goOn t j (getU (b.drop j))) (c : Int) (k : Nat) (h1 : u8one (b.drop j) = (c, k)) :
    (k = 0 → getU b = .inr j) ∧ (k ≠ 0 → getU b = goOn (t ++ [c]) (j + k) (getU (b.drop (j + k)))) := by
  have hne : b.drop j ≠ [] := fun e => by
    have := congrArg List.length e
    rw [List.length_drop, List.length_nil] at this
    omega
  rw [getU_step hne, h1] at h
  simp only at h
  constructor
  · intro hk
    rw [if_pos hk] at h
    rw [h]
    rfl
  · intro hk
    rw [if_neg hk, List.drop_drop] at h
    rw [h]
    cases getU (b.drop (j + k)) with
    | inl u => simp [goOn]
    | inr x => simp [goOn]; omega
theorem got_end {b t : List Int} (h : getU b = goOn t b.length (getU (b.drop b.length))) : getU b = .inl t := by
  rw [h, List.drop_length, getU_nil]
  simp [goOn]

end Go.Proofs.YtildhebaikeknaaGreat
