/- Several texts in one: NarSpec, NarOk, Ref15. -/
import Derived.Test.YtildhebaikeknaaGreatPk19
import Derived.Test.YtildhebaikeknaaGreatPk20
import Derived.Test.YtildhebaikeknaaGreatPk1
import Derived.Test.YtildhebaikeknaaGreatPk21
import Derived.Laws.BytesArg
/-! NarSpec -/
namespace Go.Proofs.YtildhebaikeknaaGreat

def narP (c : Int) : Bool := decide ((48 ≤ c ∧ c ≤ 57) ∨ (32 ≤ c ∧ c ≤ 32) ∨ (65 ≤ c ∧ c ≤ 90) ∨ (97 ≤ c ∧ c ≤ 122) ∨ (39 ≤ c ∧ c ≤ 41) ∨ (43 ≤ c ∧ c ≤ 47) ∨ (58 ≤ c ∧ c ≤ 58) ∨ (61 ≤ c ∧ c ≤ 61) ∨ (63 ≤ c ∧ c ≤ 63))
def narB (kind c : Int) : Bool :=
  if kind = 18 then decide ((48 ≤ c ∧ c ≤ 57) ∨ c = 32) else if kind = 19 then narP c else if kind = 22 then inR c 0 127 else if kind = 26 then inR c 32 126 else false
def narK (kind : Int) : Bool := decide (kind = 18 ∨ kind = 19 ∨ kind = 22 ∨ kind = 26)
theorem narB_none {kind c : Int} (h : narK kind = false) : narB kind c = false := by
  have h := of_decide_eq_false h
  unfold narB
  rw [if_neg (by omega), if_neg (by omega), if_neg (by omega), if_neg (by omega)]
theorem narB_u8 {kind c : Int} (h : narB kind c = true) : 0 ≤ c ∧ c ≤ 127 := by
  unfold narB at h
  by_cases h1 : kind = 18
  · rw [if_pos h1] at h; have := of_decide_eq_true h; omega
  · rw [if_neg h1] at h
    by_cases h2 : kind = 19
    · rw [if_pos h2] at h; have := of_decide_eq_true h; omega
    · rw [if_neg h2] at h
      by_cases h3 : kind = 22
      · rw [if_pos h3] at h; have := of_decide_eq_true h; omega
      · rw [if_neg h3] at h
        by_cases h4 : kind = 26
        · rw [if_pos h4] at h; have := of_decide_eq_true h; omega
        · rw [if_neg h4] at h; cases h
/-- the characters, or where the first one stands that the kind has not -/
def nchk (kind : Int) (s : List Int) : List Int ⊕ Nat := putG (narB kind) (fun c => [c]) s
def nput (kind : Int) (s : List Int) : List Int × Int × Int := if narK kind then res3 14 (nchk kind s) else ([], 0, 18)
def nget (kind : Int) (s : List Int) : List Int × Int × Int := if narK kind then res3 13 (nchk kind s) else ([], 0, 18)
theorem nchk_same : ∀ {kind : Int} {s x : List Int}, nchk kind s = .inl x → x = s ∧ ∀ c ∈ s, narB kind c = true
  | kind, [], x, h => by
    simp only [nchk, putG, Sum.inl.injEq] at h
    exact ⟨h.symm, fun c hc => by cases hc⟩
  | kind, c :: s, x, h => by
    simp only [nchk, putG] at h
    by_cases hc : narB kind c = true
    · rw [if_pos hc] at h
      cases hs : putG (narB kind) (fun c => [c]) s with
      | inr k => rw [hs] at h; cases h
      | inl y =>
        rw [hs] at h
        simp only [Sum.inl.injEq] at h
        obtain ⟨rfl, h2⟩ := nchk_same (s := s) hs
        exact ⟨h.symm, fun d hd => by
          rcases List.mem_cons.1 hd with rfl | hd
          · exact hc
          · exact h2 d hd⟩
    · rw [if_neg hc] at h; cases h
theorem nchk_u8 {kind : Int} {s x : List Int} (h : nchk kind s = .inl x) : U8 s := fun c hc => by have := narB_u8 ((nchk_same h).2 c hc); omega
theorem nchk_self {kind : Int} {s x : List Int} (h : nchk kind s = .inl x) : nchk kind s = .inl s := by rw [h, (nchk_same h).1]
theorem nchk_bad {kind : Int} {s : List Int} {j : Nat} (h : nchk kind s = .inr j) : j < s.length ∧ narB kind (s.getD j 0) = false := putG_bad h
/-- where the first character of the last ones stands that the kind has not -/
def nfrom (kind : Int) (s : List Int) (j : Nat) : Nat := match nchk kind (s.drop j) with | .inl _ => s.length | .inr k => j + k
theorem nfrom_end (kind : Int) (s : List Int) : nfrom kind s s.length = s.length := by unfold nfrom; rw [List.drop_length]; rfl
theorem nfrom_step {kind : Int} {s : List Int} {j : Nat} (hj : j < s.length) : nfrom kind s j = if narB kind (s.getD j 0) then nfrom kind s (j + 1) else j := by
  have e : s.drop j = s.getD j 0 :: s.drop (j + 1) := by
    rw [List.drop_eq_getElem_cons hj, List.getD_eq_getElem?_getD, List.getElem?_eq_getElem hj]; rfl
  unfold nfrom nchk
  rw [e]
  simp only [putG]
  by_cases hc : narB kind (s.getD j 0) = true
  · rw [if_pos hc, if_pos hc]
    cases putG (narB kind) (fun c => [c]) (s.drop (j + 1)) with
    | inl x => rfl
    | inr k => simp only []; omega
  · rw [if_neg hc, if_neg hc]
    rfl
theorem nfrom_inl {kind : Int} {s x : List Int} (h : nchk kind s = .inl x) : nfrom kind s 0 = s.length := by unfold nfrom; rw [List.drop_zero, h]
theorem nfrom_inr {kind : Int} {s : List Int} {k : Nat} (h : nchk kind s = .inr k) : nfrom kind s 0 = k := by unfold nfrom; rw [List.drop_zero, h]; simp
theorem nfrom_le {kind : Int} {s : List Int} (j : Nat) (hj : j ≤ s.length) : nfrom kind s j ≤ s.length := by
  unfold nfrom
  cases h : nchk kind (s.drop j) with
  | inl x => exact Nat.le_refl _
  | inr k =>
    have := (nchk_bad h).1
    rw [List.length_drop] at this
    simp only []
    omega
end Go.Proofs.YtildhebaikeknaaGreat

/-! NarOk -/
namespace Go.Proofs.YtildhebaikeknaaGreat
open Go.RowKit

def NHasOk : Prop := ∀ (k c : Int) (w : World), inI c = true → Calls Tryz.prog 46 #[.int .i64 k, .int .i64 c] w fun e w' => e = .returned (.bool (narB k c)) ∧ Below w.heap.size w w'
def NPutOk : Prop := ∀ (k : Int) (v : Value) (s : List Int) (w : World), Sl .i64 w v s → s.all inI = true → s.length ≤ 100000 → Calls Tryz.prog 32 #[.int .i64 k, v] w fun e w' => ∃ x, e = .returned (.tuple #[x, .int .i64 (nput k s).2.1, .int .i64 (nput k s).2.2]) ∧ Own .u8 5 w.heap.size w' x (nput k s).1 ∧ Below w.heap.size w w'
theorem nput_ok {k : Int} {s x : List Int} {a : Int} (h : nput k s = (x, a, 0)) : x = s ∧ nget k s = (s, 0, 0) ∧ U8 s := by
  unfold nput at h
  cases hk : narK k with
  | false => rw [hk] at h; simp at h
  | true =>
    rw [hk] at h
    cases hs : nchk k s with
    | inr j => rw [hs] at h; simp [res3, outE] at h
    | inl y =>
      rw [hs] at h
      simp only [res3, outL, if_true, Prod.mk.injEq] at h
      refine ⟨by rw [← h.1]; exact (nchk_same hs).1, ?_, nchk_u8 hs⟩
      unfold nget
      rw [hk, nchk_self hs]
      rfl
theorem nget_ok {k : Int} {s x : List Int} {a : Int} (h : nget k s = (x, a, 0)) : x = s ∧ nput k s = (s, 0, 0) := by
  unfold nget at h
  cases hk : narK k with
  | false => rw [hk] at h; simp at h
  | true =>
    rw [hk] at h
    cases hs : nchk k s with
    | inr j => rw [hs] at h; simp [res3, outE] at h
    | inl y =>
      rw [hs] at h
      simp only [res3, outL, if_true, Prod.mk.injEq] at h
      refine ⟨by rw [← h.1]; exact (nchk_same hs).1, ?_⟩
      unfold nput
      rw [hk, nchk_self hs]
      rfl
theorem two_cells {w : World} {b o : Nat} {x y : Int} (h0 : w.cell? ⟨b, o, none⟩ = some (.int .u8 x)) (h1 : w.cell? ⟨b, o + 1, none⟩ = some (.int .u8 y)) : ∀ i, i < 2 → w.cell? ⟨b, o + i, none⟩ = some (.int .u8 ([x, y].getD i 0)) := fun i hi => by
  have : i = 0 ∨ i = 1 := by omega
  rcases this with rfl | rfl
  · exact h0
  · exact h1
theorem w15_get : nget 19 [97, 42] = ([], 1, 13) := by decide +kernel
theorem w15_put : nput 22 [97, 42] = ([97, 42], 0, 0) := by decide +kernel
theorem w15_str : strOfNums [97, 42] = ⟨#[97, 42]⟩ := by rfl

end Go.Proofs.YtildhebaikeknaaGreat

/-! Ref15 -/
namespace Go.Proofs.YtildhebaikeknaaGreat
open Go.RowKit

theorem refNarrow15 (k : Int) (w : World) : Calls Tryz.prog 54 #[.int .i64 k] w fun e w' => e = .returned (.bool (narK k)) ∧ w = w' := by
  by_cases h1 : k = 18
  · subst h1
    go_enter Tryz.func54, Tryz.ntmps54
    go_wp2
    go_ret
    exact ⟨rfl, rfl⟩
  have e1 : (k == 18) = false := by simp [h1]
  by_cases h2 : k = 19
  · subst h2
    go_enter Tryz.func54, Tryz.ntmps54
    go_wp2
    go_ret
    exact ⟨rfl, rfl⟩
  have e2 : (k == 19) = false := by simp [h2]
  by_cases h3 : k = 22
  · subst h3
    go_enter Tryz.func54, Tryz.ntmps54
    go_wp2
    go_ret
    exact ⟨rfl, rfl⟩
  have e3 : (k == 22) = false := by simp [h3]
  by_cases h4 : k = 26
  · subst h4
    go_enter Tryz.func54, Tryz.ntmps54
    go_wp2
    go_ret
    exact ⟨rfl, rfl⟩
  have e4 : (k == 26) = false := by simp [h4]
  rw [show narK k = false from decide_eq_false (by omega)]
  clear h1 h2 h3 h4
  go_enter Tryz.func54, Tryz.ntmps54
  go_wp2
  go_ret
  exact ⟨rfl, rfl⟩

set_option maxRecDepth 10000 in
set_option maxHeartbeats 4000000 in
theorem refHas15 (k c : Int) (w : World) : Calls Tryz.prog 55 #[.int .i64 k, .int .i64 c] w fun e w' => e = .returned (.bool (narB k c)) ∧ w = w' := by
  by_cases k18 : k = 18
  · subst k18
    by_cases hd : 48 ≤ c ∧ c ≤ 57
    · have I48 := hid (fun w => refIn15 c 48 57 w)
      rw [inR_t (by omega)] at I48
      rw [show narB 18 c = true from decide_eq_true (.inl hd)]
      clear hd
      go_enter Tryz.func55, Tryz.ntmps55
      go_wp2_with (first
        | (go_at_call 76; with_reducible refine (I48.out _).mono ?_; rintro e w1 ⟨rfl, rfl⟩))
      go_ret
      exact ⟨rfl, rfl⟩
    have I48 := hid (fun w => refIn15 c 48 57 w)
    rw [inR_f (by omega)] at I48
    by_cases h32 : c = 32
    · subst h32
      clear hd
      go_enter Tryz.func55, Tryz.ntmps55
      go_wp2_with (first
        | (go_at_call 76; with_reducible refine (I48.out _).mono ?_; rintro e w1 ⟨rfl, rfl⟩))
      go_ret
      exact ⟨rfl, rfl⟩
    have q32 : (c == 32) = false := by simp; omega
    rw [show narB 18 c = false from decide_eq_false (by omega)]
    clear hd h32
    go_enter Tryz.func55, Tryz.ntmps55
    go_wp2_with (first
      | (go_at_call 76; with_reducible refine (I48.out _).mono ?_; rintro e w1 ⟨rfl, rfl⟩))
    go_ret
    exact ⟨rfl, rfl⟩
  have e18 : (k == 18) = false := by simp [k18]
  by_cases k19 : k = 19
  · subst k19
    by_cases h48 : 48 ≤ c ∧ c ≤ 57
    · have I48 := hid (fun w => refIn15 c 48 57 w)
      rw [inR_t (by omega)] at I48
      rw [show narB 19 c = true from decide_eq_true (by omega)]
      clear h48
      go_enter Tryz.func55, Tryz.ntmps55
      go_wp2_with (first
        | (go_at_call 76; with_reducible refine (I48.out _).mono ?_; rintro e w1 ⟨rfl, rfl⟩))
      go_ret
      exact ⟨rfl, rfl⟩
    have I48 := hid (fun w => refIn15 c 48 57 w)
    rw [inR_f (by omega)] at I48
    by_cases h32 : c = 32
    · subst h32
      clear h48
      go_enter Tryz.func55, Tryz.ntmps55
      go_wp2_with (first
        | (go_at_call 76; with_reducible refine (I48.out _).mono ?_; rintro e w1 ⟨rfl, rfl⟩))
      go_ret
      exact ⟨rfl, rfl⟩
    have q32 : (c == 32) = false := by simp; omega
    by_cases h65 : 65 ≤ c ∧ c ≤ 90
    · have I65 := hid (fun w => refIn15 c 65 90 w)
      rw [inR_t (by omega)] at I65
      rw [show narB 19 c = true from decide_eq_true (by omega)]
      clear h48 h32 h65
      go_enter Tryz.func55, Tryz.ntmps55
      go_wp2_with (first
        | (go_at_call 76; with_reducible refine (I48.out _).mono ?_; rintro e w1 ⟨rfl, rfl⟩)
        | (go_at_call 76; with_reducible refine (I65.out _).mono ?_; rintro e w1 ⟨rfl, rfl⟩))
      go_ret
      exact ⟨rfl, rfl⟩
    have I65 := hid (fun w => refIn15 c 65 90 w)
    rw [inR_f (by omega)] at I65
    by_cases h97 : 97 ≤ c ∧ c ≤ 122
    · have I97 := hid (fun w => refIn15 c 97 122 w)
      rw [inR_t (by omega)] at I97
      rw [show narB 19 c = true from decide_eq_true (by omega)]
      clear h48 h32 h65 h97
      go_enter Tryz.func55, Tryz.ntmps55
      go_wp2_with (first
        | (go_at_call 76; with_reducible refine (I48.out _).mono ?_; rintro e w1 ⟨rfl, rfl⟩)
        | (go_at_call 76; with_reducible refine (I65.out _).mono ?_; rintro e w1 ⟨rfl, rfl⟩)
        | (go_at_call 76; with_reducible refine (I97.out _).mono ?_; rintro e w1 ⟨rfl, rfl⟩))
      go_ret
      exact ⟨rfl, rfl⟩
    have I97 := hid (fun w => refIn15 c 97 122 w)
    rw [inR_f (by omega)] at I97
    by_cases h39 : 39 ≤ c ∧ c ≤ 41
    · have I39 := hid (fun w => refIn15 c 39 41 w)
      rw [inR_t (by omega)] at I39
      rw [show narB 19 c = true from decide_eq_true (by omega)]
      clear h48 h32 h65 h97 h39
      go_enter Tryz.func55, Tryz.ntmps55
      go_wp2_with (first
        | (go_at_call 76; with_reducible refine (I48.out _).mono ?_; rintro e w1 ⟨rfl, rfl⟩)
        | (go_at_call 76; with_reducible refine (I65.out _).mono ?_; rintro e w1 ⟨rfl, rfl⟩)
        | (go_at_call 76; with_reducible refine (I97.out _).mono ?_; rintro e w1 ⟨rfl, rfl⟩)
        | (go_at_call 76; with_reducible refine (I39.out _).mono ?_; rintro e w1 ⟨rfl, rfl⟩))
      go_ret
      exact ⟨rfl, rfl⟩
    have I39 := hid (fun w => refIn15 c 39 41 w)
    rw [inR_f (by omega)] at I39
    by_cases h43 : 43 ≤ c ∧ c ≤ 47
    · have I43 := hid (fun w => refIn15 c 43 47 w)
      rw [inR_t (by omega)] at I43
      rw [show narB 19 c = true from decide_eq_true (by omega)]
      clear h48 h32 h65 h97 h39 h43
      go_enter Tryz.func55, Tryz.ntmps55
      go_wp2_with (first
        | (go_at_call 76; with_reducible refine (I48.out _).mono ?_; rintro e w1 ⟨rfl, rfl⟩)
        | (go_at_call 76; with_reducible refine (I65.out _).mono ?_; rintro e w1 ⟨rfl, rfl⟩)
        | (go_at_call 76; with_reducible refine (I97.out _).mono ?_; rintro e w1 ⟨rfl, rfl⟩)
        | (go_at_call 76; with_reducible refine (I39.out _).mono ?_; rintro e w1 ⟨rfl, rfl⟩)
        | (go_at_call 76; with_reducible refine (I43.out _).mono ?_; rintro e w1 ⟨rfl, rfl⟩))
      go_ret
      exact ⟨rfl, rfl⟩
    have I43 := hid (fun w => refIn15 c 43 47 w)
    rw [inR_f (by omega)] at I43
    by_cases h58 : c = 58
    · subst h58
      clear h48 h32 h65 h97 h39 h43
      go_enter Tryz.func55, Tryz.ntmps55
      go_wp2_with (first
        | (go_at_call 76; with_reducible refine (I48.out _).mono ?_; rintro e w1 ⟨rfl, rfl⟩)
        | (go_at_call 76; with_reducible refine (I65.out _).mono ?_; rintro e w1 ⟨rfl, rfl⟩)
        | (go_at_call 76; with_reducible refine (I97.out _).mono ?_; rintro e w1 ⟨rfl, rfl⟩)
        | (go_at_call 76; with_reducible refine (I39.out _).mono ?_; rintro e w1 ⟨rfl, rfl⟩)
        | (go_at_call 76; with_reducible refine (I43.out _).mono ?_; rintro e w1 ⟨rfl, rfl⟩))
      go_ret
      exact ⟨rfl, rfl⟩
    have q58 : (c == 58) = false := by simp; omega
    by_cases h61 : c = 61
    · subst h61
      clear h48 h32 h65 h97 h39 h43 h58
      go_enter Tryz.func55, Tryz.ntmps55
      go_wp2_with (first
        | (go_at_call 76; with_reducible refine (I48.out _).mono ?_; rintro e w1 ⟨rfl, rfl⟩)
        | (go_at_call 76; with_reducible refine (I65.out _).mono ?_; rintro e w1 ⟨rfl, rfl⟩)
        | (go_at_call 76; with_reducible refine (I97.out _).mono ?_; rintro e w1 ⟨rfl, rfl⟩)
        | (go_at_call 76; with_reducible refine (I39.out _).mono ?_; rintro e w1 ⟨rfl, rfl⟩)
        | (go_at_call 76; with_reducible refine (I43.out _).mono ?_; rintro e w1 ⟨rfl, rfl⟩))
      go_ret
      exact ⟨rfl, rfl⟩
    have q61 : (c == 61) = false := by simp; omega
    by_cases h63 : c = 63
    · subst h63
      clear h48 h32 h65 h97 h39 h43 h58 h61
      go_enter Tryz.func55, Tryz.ntmps55
      go_wp2_with (first
        | (go_at_call 76; with_reducible refine (I48.out _).mono ?_; rintro e w1 ⟨rfl, rfl⟩)
        | (go_at_call 76; with_reducible refine (I65.out _).mono ?_; rintro e w1 ⟨rfl, rfl⟩)
        | (go_at_call 76; with_reducible refine (I97.out _).mono ?_; rintro e w1 ⟨rfl, rfl⟩)
        | (go_at_call 76; with_reducible refine (I39.out _).mono ?_; rintro e w1 ⟨rfl, rfl⟩)
        | (go_at_call 76; with_reducible refine (I43.out _).mono ?_; rintro e w1 ⟨rfl, rfl⟩))
      go_ret
      exact ⟨rfl, rfl⟩
    have q63 : (c == 63) = false := by simp; omega
    rw [show narB 19 c = false from decide_eq_false (by omega)]
    clear h48 h32 h65 h97 h39 h43 h58 h61 h63
    go_enter Tryz.func55, Tryz.ntmps55
    go_wp2_with (first
      | (go_at_call 76; with_reducible refine (I48.out _).mono ?_; rintro e w1 ⟨rfl, rfl⟩)
      | (go_at_call 76; with_reducible refine (I65.out _).mono ?_; rintro e w1 ⟨rfl, rfl⟩)
      | (go_at_call 76; with_reducible refine (I97.out _).mono ?_; rintro e w1 ⟨rfl, rfl⟩)
      | (go_at_call 76; with_reducible refine (I39.out _).mono ?_; rintro e w1 ⟨rfl, rfl⟩)
      | (go_at_call 76; with_reducible refine (I43.out _).mono ?_; rintro e w1 ⟨rfl, rfl⟩))
    go_ret
    exact ⟨rfl, rfl⟩
  have e19 : (k == 19) = false := by simp [k19]
  by_cases k22 : k = 22
  · subst k22
    have I48 := hid (fun w => refIn15 c 48 57 w)
    have I0 := hid (fun w => refIn15 c 0 127 w)
    rw [show narB 22 c = inR c 0 127 from rfl]
    generalize inR c 48 57 = b1 at I48
    generalize inR c 0 127 = b2 at I0 ⊢
    go_enter Tryz.func55, Tryz.ntmps55
    go_wp2_with (first
      | (go_at_call 76; with_reducible refine (I48.out _).mono ?_; rintro e w1 ⟨rfl, rfl⟩)
      | (go_at_call 76; with_reducible refine (I0.out _).mono ?_; rintro e w1 ⟨rfl, rfl⟩))
    go_ret
    exact ⟨rfl, rfl⟩
  have e22 : (k == 22) = false := by simp [k22]
  by_cases k26 : k = 26
  · subst k26
    have I48 := hid (fun w => refIn15 c 48 57 w)
    have I32 := hid (fun w => refIn15 c 32 126 w)
    rw [show narB 26 c = inR c 32 126 from rfl]
    generalize inR c 48 57 = b1 at I48
    generalize inR c 32 126 = b2 at I32 ⊢
    go_enter Tryz.func55, Tryz.ntmps55
    go_wp2_with (first
      | (go_at_call 76; with_reducible refine (I48.out _).mono ?_; rintro e w1 ⟨rfl, rfl⟩)
      | (go_at_call 76; with_reducible refine (I32.out _).mono ?_; rintro e w1 ⟨rfl, rfl⟩))
    go_ret
    exact ⟨rfl, rfl⟩
  have e26 : (k == 26) = false := by simp [k26]
  have I48 := hid (fun w => refIn15 c 48 57 w)
  rw [show narB k c = false from narB_none (decide_eq_false (by omega))]
  generalize inR c 48 57 = b1 at I48
  clear k18 k19 k22 k26
  go_enter Tryz.func55, Tryz.ntmps55
  go_wp2_with (first
    | (go_at_call 76; with_reducible refine (I48.out _).mono ?_; rintro e w1 ⟨rfl, rfl⟩))
  go_ret
  exact ⟨rfl, rfl⟩

set_option maxRecDepth 10000 in
set_option maxHeartbeats 4000000 in
theorem refPut15 (k : Int) (v : Value) (s : List Int) (w : World) (hs : Sl .i64 w v s) (hl : s.length ≤ 1000000) : Calls Tryz.prog 38 #[.int .i64 k, v] w fun e w' =>
    ∃ x, e = .returned (.tuple #[x, .int .i64 (nput k s).2.1, .int .i64 (nput k s).2.2]) ∧ Sl .u8 w' x (nput k s).1 ∧ Below w.heap.size w w' := by
  obtain ⟨a1, cap1, rfl, q1, -, h1⟩ := hs
  obtain ⟨n, hn⟩ : ∃ n, n = s.length := ⟨_, rfl⟩
  have HN := hid hn
  have H1 := hid h1
  have HK := hid (fun w => refNarrow15 k w)
  rw [← hn] at q1 hl ⊢
  clear h1 hn
  cases hk : narK k with
  | false =>
    rw [hk] at HK
    have HR := hid (show nput k s = ([], 0, 18) by unfold nput; rw [hk]; rfl)
    clear hk
    go_enter Tryz.func38, Tryz.ntmps38
    go_wp2_with (go_at_call 54; with_reducible refine (HK.out _).mono ?_; rintro e w1 ⟨rfl, rfl⟩)
    go_ret3
    exact ⟨_, by rw [HR.out]; rfl, by rw [HR.out]; exact (Own.nil .u8 5 0 _).sl, Below.refl _ _⟩
  | true =>
    rw [hk] at HK
    have HW := hid (show nput k s = res3 14 (nchk k s) by unfold nput; rw [hk]; rfl)
    clear hk
    go_enter Tryz.func38, Tryz.ntmps38
    go_wp2_with (go_at_call 54; with_reducible refine (HK.out _).mono ?_; rintro e w1 ⟨rfl, rfl⟩)
    go_loopw [7, 8] (fun bv iv wr => ∃ (j : Nat), j ≤ n ∧ iv = .int .i64 j ∧ Hid (Own .u8 5 w.heap.size wr bv (s.take j)) ∧ Hid (Below w.heap.size w wr) ∧ Hid (nchk k (s.take j) = .inl (s.take j))) (fun _ iv _ => n - (intOf iv).toNat)
    case atStart => exact ⟨0, by omega, rfl, Own.nil _ _ _ _, Below.refl _ _, by show nchk k (s.take 0) = _; rfl⟩
    case round =>
      obtain ⟨j, hj, rfl, hown, hbel, hput⟩ := hrel
      by_cases hlt : j < n
      · rcases H1.out with hcc | ⟨b1, o1, rfl, hb1, hc⟩
        · omega
        have hb1' := hb1 (by have := HN.out; omega)
        have d1 := (hbel.out.cell (p := ⟨b1, o1 + j, none⟩) hb1').trans (hc j (by have := HN.out; omega))
        obtain ⟨p1, p2⟩ := putG_part (by have := HN.out; omega) hput.out
        have HT := hid (show s.take j ++ [s.getD j 0] = s.take (j + 1) by
          have e : s[j]? = some (s.getD j 0) := by rw [List.getD_eq_getElem?_getD, List.getElem?_eq_getElem (by have := HN.out; omega)]; rfl
          rw [List.take_add_one, e]; rfl)
        have HL := hid (show (s.take j).length = j by rw [List.length_take]; have := HN.out; omega)
        have HH := hid (fun w => refHas15 k (s.getD j 0) w)
        clear hc hb1 hb1'
        generalize s.getD j 0 = c at d1 p1 p2 HT HH
        cases hsc : narB k c with
        | false =>
          rw [hsc] at HH
          have HR := hid (show nput k s = ([], (j : Int), 14) by rw [HW.out, show nchk k s = .inr j from p1 hsc]; rfl)
          clear p1 p2 hsc
          go_wp2_with (go_at_call 55; with_reducible refine (HH.out _).mono ?_; rintro e w1 ⟨rfl, rfl⟩)
          go_ret3
          exact ⟨_, by rw [HR.out]; rfl, by rw [HR.out]; exact (Own.nil .u8 5 0 _).sl, hbel.out⟩
        | true =>
          rw [hsc] at HH
          obtain ⟨c0, c1⟩ := narB_u8 hsc
          have HP := hid (show nchk k (s.take (j + 1)) = .inl (s.take (j + 1)) by rw [← HT.out]; have := p2 hsc; rw [← HT.out] at this; exact this)
          clear p1 p2 hsc
          go_wp2_with (first
            | (go_at_call 55; with_reducible refine (HH.out _).mono ?_; rintro e w1 ⟨rfl, rfl⟩)
            | (at_builtin; go_loud (refine wpList_app _ rfl _ _ 42 rfl .u8 w.heap.size 5 1 Tryz.underlying42 Tryz.infoU8 _ (s.take j) [c] rfl (hown.out.alloc _) _ rfl (lit_sl (by first | simp | rfl) rfl rfl (by simp)) (by have := HL.out; unfold maxLen; simp; omega) (by have := HL.out; simp; omega) (by have := hbel.out.size; simp; omega) ?_); intro v5 w5 ho5 hg5 hb5 hn5; rw [HT.out] at ho5; have HO5 := hid ho5; have HB5 := hid ((hbel.out.alloc hbel.out.size _).trans hb5); clear ho5 hg5 hb5 hn5))
          go_roundw
          case rel => exact ⟨j + 1, by omega, by go_num, HO5.out, HB5.out, HP.out⟩
          case measure => simp [intOf]; omega
      · obtain rfl : j = n := by omega
        have HR := hid (show nput k s = (s.take j, 0, 0) by rw [HW.out]; have := hput.out; rw [HN.out, List.take_length] at this ⊢; rw [this]; rfl)
        go_wp2
        go_ret3
        exact ⟨_, by rw [HR.out]; rfl, by rw [HR.out]; exact hown.out.sl, hbel.out⟩

end Go.Proofs.YtildhebaikeknaaGreat
