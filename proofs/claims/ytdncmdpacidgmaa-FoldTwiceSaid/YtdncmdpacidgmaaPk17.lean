/- Several texts in one: Ref6b, Ref6c, Ref8. -/
import Derived.Test.YtdncmdpacidgmaaPk2
import Derived.Test.YtdncmdpacidgmaaPk16
import Derived.Test.YtdncmdpacidgmaaPk5
import Derived.Test.YtdncmdpacidgmaaPk6
import Derived.Test.YtdncmdpacidgmaaPk1
/-! Ref6b -/
namespace Go.Proofs.Ytdncmdpacidgmaa
open Go.RowKit

/-- the tables lie behind block B -/
def TabsAt (B : Nat) (w : World) : Prop := ∃ v1 v2 v3 v4 v5, Box 44 [v1, v2, v3, v4, v5] B w ∧ Sg w v1 tabCanon ∧ Sm w v2 tabCompat ∧ Sm w v3 tabFolds ∧ Sl .i64 w v4 exclL ∧ Sg w v5 tabClasses
theorem TabsAt.below {B : Nat} {w w' : World} (h : TabsAt B w) (hb : Below w.heap.size w w') : TabsAt B w' := by
  obtain ⟨v1, v2, v3, v4, v5, hx, h1, h2, h3, h4, h5⟩ := h
  exact ⟨v1, v2, v3, v4, v5, hx.below hb hx.lt, h1.below hb, h2.below hb, h3.below hb, h4.below hb, h5.below hb⟩

set_option maxHeartbeats 2000000 in
theorem refAll6 (w : World) : Calls Try.prog 7 #[] w fun e w' => ∃ B, e = .returned (.pointer (some ⟨B, 0, none⟩)) ∧ TabsAt B w' ∧ Below w.heap.size w w' := by
  go_enter Try.func7, Try.ntmps7
  go_wp2_with (first
    | (go_at_call 18; refine (apiCanon _).mono ?_; rintro e w1 ⟨v1, rfl, ho1, hb1⟩; have HO1 := hid ho1.sg; have HB1 := hid hb1; obtain ⟨a1, c1, hv1⟩ := ho1.form; obtain ⟨n1, hn1⟩ : ∃ n, n = tabCanon.length := ⟨_, rfl⟩; rw [← hn1] at hv1; subst hv1; clear ho1 hb1 hn1)
    | (go_at_call 19; refine (apiCompat _).mono ?_; rintro e w2 ⟨v2, rfl, ho2, hb2⟩; have HO2 := hid ho2.sm; have HB2 := hid hb2; obtain ⟨a2, c2, hv2⟩ := ho2.form; obtain ⟨n2, hn2⟩ : ∃ n, n = tabCompat.length := ⟨_, rfl⟩; rw [← hn2] at hv2; subst hv2; clear ho2 hb2 hn2)
    | (go_at_call 20; refine (apiFolds _).mono ?_; rintro e w3 ⟨v3, rfl, ho3, hb3⟩; have HO3 := hid ho3.sm; have HB3 := hid hb3; obtain ⟨a3, c3, hv3⟩ := ho3.form; obtain ⟨n3, hn3⟩ : ∃ n, n = tabFolds.length := ⟨_, rfl⟩; rw [← hn3] at hv3; subst hv3; clear ho3 hb3 hn3)
    | (go_at_call 21; refine (apiExcludedO _).mono ?_; rintro e w4 ⟨v4, rfl, ho4, hb4⟩; have HO4 := hid ho4.sl; have HB4 := hid hb4; obtain ⟨a4, c4, hv4⟩ := ho4.sl.form; obtain ⟨n4, hn4⟩ : ∃ n, n = exclL.length := ⟨_, rfl⟩; rw [← hn4] at hv4; subst hv4; clear ho4 hb4 hn4)
    | (go_at_call 22; refine (apiClasses _).mono ?_; rintro e w5 ⟨v5, rfl, ho5, hb5⟩; have HO5 := hid ho5; have HB5 := hid hb5; obtain ⟨a5, c5, hv5⟩ := ho5.form; obtain ⟨n5, hn5⟩ : ∃ n, n = tabClasses.length := ⟨_, rfl⟩; rw [← hn5] at hv5; subst hv5; clear ho5 hb5 hn5))
  go_ret
  have k6 : Below w5.heap.size w5 (w5.alloc (.cells #[.slice a1 n1 c1, .slice a2 n2 c2, .slice a3 n3 c3, .slice a4 n4 c4, .slice a5 n5 c5] 44)) := by (repeat (first | exact Below.refl _ _ | exact below_drewN _ | refine Below.drew ?_ | refine Below.alloc ?_ (by simp) _ | refine Below.setCell ?_ (by simp) _ | refine below_drewN' ?_ _))
  have k2 := HB1.out.trans (HB2.out.mono HB1.out.size)
  have k3 := k2.trans (HB3.out.mono k2.size)
  have k4 := k3.trans (HB4.out.mono k3.size)
  have k5 := k4.trans (HB5.out.mono k4.size)
  exact ⟨w5.heap.size, rfl, ⟨_, _, _, _, _, Box.made w5 _ [_, _, _, _, _], ((((HO1.out.below HB2.out).below HB3.out).below HB4.out).below HB5.out).below k6, (((HO2.out.below HB3.out).below HB4.out).below HB5.out).below k6, ((HO3.out.below HB4.out).below HB5.out).below k6, (HO4.out.below HB5.out).below k6, HO5.out.below k6⟩, k5.trans (k6.mono k5.size)⟩

set_option maxHeartbeats 2000000 in
theorem refLook6 (v : Value) (l : List Mp) (c : Int) (w : World) (h : Sm w v l) (hs : ∀ m ∈ l, m.t.length ≤ 1000) :
    Calls Try.prog 34 #[v, .int .i64 c] w fun e w' => ∃ x, e = .returned x ∧ Sl .i64 w' x (fndM c l).1.t ∧ Below w.heap.size w w' := by
  have ml := h.len
  obtain ⟨a1, cap1, rfl, q1, -, h1⟩ := h
  obtain ⟨n, hn⟩ : ∃ n, n = l.length := ⟨_, rfl⟩
  obtain ⟨R, hR⟩ : ∃ R, R = (fndM c l).1.t := ⟨_, rfl⟩
  have hH : ∀ k, k < n → (∀ i, i < k → ((l.getD i noMp).f == c) = false) → ((l.getD k noMp).f == c) = true → R = (l.getD k noMp).t := fun k hk ha hh => by rw [hR, fndM_hit (by omega) ha hh]
  have hN : (∀ i, i < n → ((l.getD i noMp).f == c) = false) → R = [] := fun ha => by rw [hR, fndM_none (by rw [← hn]; exact ha)]; rfl
  have hS : ∀ k, k < n → (l.getD k noMp).t.length ≤ 1000 := fun k hk => hs _ (by
    have e : l.getD k noMp = l[k]'(by omega) := by rw [List.getD_eq_getElem?_getD, List.getElem?_eq_getElem (by omega)]; rfl
    rw [e]
    exact List.getElem_mem _)
  rw [← hR]
  have HH := hid hH
  have HN := hid hN
  have H1 := hid h1
  have HS := hid hS
  rw [← hn] at ml q1 H1 ⊢
  clear hH hN h1 hn hR hs hS
  go_enter Try.func34, Try.ntmps34
  go_wp2_with (fail)
  go_loopw [5] (fun iv wr => ∃ k : Nat, k ≤ n ∧ iv = .int .i64 k ∧ wr = w ∧ Hid (∀ i, i < k → ((l.getD i noMp).f == c) = false)) (fun iv _ => n - (intOf iv).toNat)
  case atStart => exact ⟨0, by omega, rfl, rfl, fun i hi => absurd hi (by omega)⟩
  case round =>
    obtain ⟨k, hk, rfl, rfl, hall⟩ := hrel
    by_cases hlt : k < n
    · rcases H1.out with hc | ⟨b1, o1, rfl, hb1, c1⟩
      · omega
      obtain ⟨d1, ux, d2, d3⟩ := c1 k hlt
      have hh := hid (HH.out k hlt hall.out)
      have hsm := hid (HS.out k hlt)
      have HNX := hid (show ((l.getD k noMp).f == c) = false → ∀ i, i < k + 1 → ((l.getD i noMp).f == c) = false from fun he i hi => by
        rcases Nat.lt_or_ge i k with h | h
        · exact hall.out i h
        · obtain rfl : i = k := by omega
          exact he)
      clear c1
      generalize l.getD k noMp = r at d1 d2 d3 hh HNX hsm
      obtain ⟨rf, rt⟩ := r
      simp only at d1 d2 d3 hh HNX hsm
      have HD := hid d3
      clear d3
      obtain ⟨b, hb⟩ : ∃ b, b = (rf == c) := ⟨_, rfl⟩
      rw [← hb] at hh HNX
      replace hb := hb.symm
      cases b with
      | true =>
        have hr := hid (hh.out rfl)
        go_wp2_with (go_at_call 8; refine (keepTwinInts ux rt _ HD.out (by have := hsm.out; omega)).mono ?_; rintro e w2 ⟨v2, rfl, ho2, hb2⟩; have HO2 := hid ho2; have HB2 := hid hb2; clear ho2 hb2)
        go_ret
        exact ⟨_, rfl, by rw [hr.out]; exact HO2.out.sl, HB2.out⟩
      | false =>
        have hr := hid (HNX.out rfl)
        go_wp2_with (fail)
        go_roundw
        case rel => exact ⟨k + 1, by omega, by go_num, by first | trivial | rfl, hr.out⟩
        case measure => simp [intOf]; omega
    · obtain rfl : k = n := by omega
      have hr := hid (HN.out hall.out)
      go_wp2_with (fail)
      go_ret
      exact ⟨_, rfl, by rw [hr.out]; exact sl_nil _ _, Below.refl _ _⟩

/-- no entry speaks of what is no scalar; what they tell is short -/
def offM (l : List Mp) : Bool := l.all fun m => scalarB m.f && decide (m.t.length ≤ 1000)
set_option maxRecDepth 100000 in
theorem offM_all : offM tabCompat = true ∧ offM tabFolds = true := by decide +kernel
theorem offM_map {l : List Mp} (h : offM l = true) (c : Int) : (fndM c l).1.t = mapS l c := by
  cases hb : scalarB c with
  | true => exact mapS_t hb
  | false =>
    rw [← mapS_f (l := l) hb]
    have key : ∀ l : List Mp, offM l = true → (fndM c l).1.t = [] := fun l => by
      induction l with
      | nil => intro _; rfl
      | cons m l ih =>
        intro h
        simp only [offM, List.all_cons, Bool.and_eq_true] at h
        rw [fndM]
        split
        · rename_i he
          have := eq_of_beq he
          rw [this, hb] at h
          simp at h
        · exact ih h.2
    exact key l h
theorem offM_len {l : List Mp} (h : offM l = true) : ∀ m ∈ l, m.t.length ≤ 1000 := fun m hm => by
  have := List.all_eq_true.1 h m hm
  simp only [Bool.and_eq_true, decide_eq_true_eq] at this
  exact this.2
theorem refTFold (B : Nat) (c : Int) (w : World) (h : TabsAt B w) : Calls Try.prog 23 #[.pointer (some ⟨B, 0, none⟩), .int .i64 c] w fun e w' => ∃ x, e = .returned x ∧ Sl .i64 w' x (mapS tabFolds c) ∧ Below w.heap.size w w' := by
  obtain ⟨v1, v2, v3, v4, v5, hx, h1, h2, h3, h4, h5⟩ := h
  have HS := hid h3
  have x4 := hx.cell 2
  simp only [List.getElem?_cons_zero, List.getElem?_cons_succ] at x4
  have HR := hid (offM_map (c := c) offM_all.2)
  have HL := hid (offM_len offM_all.2)
  clear hx h1 h2 h3 h4 h5
  go_enter Try.func23, Try.ntmps23
  go_wp2_with (first
    | (go_at_call 34; refine (refLook6 v3 tabFolds c w HS.out HL.out).mono ?_; rw [HR.out]; rintro e wz ⟨x, rfl, hs, hb⟩; have HX := hid hs; have HB := hid hb; clear hs hb))
  go_ret
  exact ⟨_, rfl, HX.out, HB.out⟩
end Go.Proofs.Ytdncmdpacidgmaa

/-! Ref6c -/
namespace Go.Proofs.Ytdncmdpacidgmaa
open Go.RowKit

set_option maxRecDepth 100000 in
theorem canon_off : (tabCanon.all fun r => scalarB r.f) = true := by decide +kernel
theorem canon_row (c : Int) : rowS (fndS (fun r => r.f == c) tabCanon) = canonS c := by
  cases hb : scalarB c with
  | true => exact canonS_t hb
  | false =>
    rw [← canonS_f hb]
    have key : ∀ l : List Rg, (l.all fun r => scalarB r.f) = true → fndS (fun r => r.f == c) l = (noRg, false) := fun l => by
      induction l with
      | nil => intro _; rfl
      | cons r l ih =>
        intro h
        simp only [List.all_cons, Bool.and_eq_true] at h
        rw [fndS]
        split
        · rename_i he
          have := eq_of_beq he
          rw [this, hb] at h
          simp at h
        · exact ih h.2
    rw [key _ canon_off]
    rfl

end Go.Proofs.Ytdncmdpacidgmaa

/-! Ref8 -/
namespace Go.Proofs.Ytdncmdpacidgmaa
open Go.RowKit

/-- what a number comes apart to at once -/
def stepS (k : Bool) (c : Int) : List Int := if (canonS c).isEmpty then (if k then mapS tabCompat c else []) else canonS c
def oneN (k : Bool) : Nat → Int → List Int
  | 0, c => [c]
  | n + 1, c => if (splitS c).isEmpty then (if (stepS k c).isEmpty then [c] else (stepS k c).flatMap (oneN k n)) else splitS c
/-- so many levels suffice -/
def deepB (k : Bool) : Nat → Int → Bool
  | 0, _ => false
  | n + 1, c => inI c && (!(splitS c).isEmpty || (stepS k c).all (deepB k n))
theorem oneN_len {k : Bool} (hs : ∀ c, (stepS k c).length ≤ 3) : ∀ (n : Nat) (c : Int), (oneN k n c).length ≤ 3 ^ n * 3
  | 0, c => by simp [oneN]
  | n + 1, c => by
    have ih := oneN_len hs n
    have hp : 1 ≤ 3 ^ (n + 1) := Nat.one_le_pow _ _ (by omega)
    rw [oneN]
    split
    · split
      · simp only [List.length_cons, List.length_nil]
        omega
      · have key : ∀ l : List Int, (l.flatMap (oneN k n)).length ≤ l.length * (3 ^ n * 3) := fun l => by
          induction l with
          | nil => simp
          | cons x l ihl =>
            rw [List.flatMap_cons, List.length_append, List.length_cons, Nat.succ_mul]
            have := ih x
            omega
        have h1 := key (stepS k c)
        have h2 := Nat.mul_le_mul_right (3 ^ n * 3) (hs c)
        rw [Nat.pow_succ]
        omega
    · have : (splitS c).length ≤ 3 := by
        unfold splitS partsN
        split
        · split <;> simp
        · simp
      omega
set_option maxRecDepth 100000 in
theorem compat_len3 : (tabCompat.all fun m => decide (m.t.length ≤ 3)) = true := by decide +kernel
theorem stepS_len (k : Bool) (c : Int) : (stepS k c).length ≤ 3 := by
  have h1 : (canonS c).length ≤ 3 := by
    unfold canonS rowS
    split
    · split
      · split <;> simp
      · simp
    · simp
  have key : ∀ l : List Mp, (l.all fun m => decide (m.t.length ≤ 3)) = true → (fndM c l).1.t.length ≤ 3 := fun l => by
    induction l with
    | nil => intro _; exact Nat.zero_le _
    | cons m l ih =>
      intro h
      simp only [List.all_cons, Bool.and_eq_true, decide_eq_true_eq] at h
      rw [fndM]
      split
      · exact h.1
      · exact ih h.2
  have h2 : (mapS tabCompat c).length ≤ 3 := by
    unfold mapS
    split
    · exact key _ compat_len3
    · simp
  unfold stepS
  split
  · split
    · exact h2
    · simp
  · exact h1

theorem each_len (k : Bool) (n : Nat) : ∀ l : List Int, (l.flatMap (oneN k n)).length ≤ l.length * (3 ^ n * 3)
  | [] => by simp
  | x :: l => by
    have := oneN_len (stepS_len k) n x
    have ih := each_len k n l
    rw [List.flatMap_cons, List.length_append, List.length_cons, Nat.succ_mul]
    omega

end Go.Proofs.Ytdncmdpacidgmaa
